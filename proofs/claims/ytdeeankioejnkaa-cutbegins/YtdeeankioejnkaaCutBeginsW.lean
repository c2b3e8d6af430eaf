/-
  CutBegins: the walk.
-/
import Derived.Test.YtdeeankioejnkaaAt
import Derived.Test.YtdeeankioejnkaaCut4
import Derived.RegionTactic
import Derived.BigRegion
import Derived.Deep.RegionWith
namespace Go.Proofs.Ytdeeankioejnkaa
open Go.RowKit
set_option linter.unusedVariables false
set_option linter.unusedSimpArgs false

set_option maxHeartbeats 2000000 in
theorem cutBegins_walk (B K x : Int) (a : Option Addr) (cap : Nat) (c : List UInt8) (w : World) (hB : I64 B) (hK : I64 K) (hX : I64 x) (hn : c.length ≤ maxLen) (hcap : c.length ≤ cap) (ha : Lies w a (bs c)) :
    Calls Try.prog 8 #[.agg #[.int .i64 B, .int .i64 K], .slice a c.length cap, .int .i64 x] w fun e w' => e = .returned (.bool true) ∧ Below w.heap.size w w' := by
  have HN : Hid (c.length ≤ maxLen) := hn
  clear hn
  by_cases hc : cutCode B K c = 0
  · obtain ⟨n, k, nb, hg, hl⟩ := cutCode_zero hc
    have HG : Hid (Good B K n k nb) := hg
    have HL : Hid (c.length = n) := hl
    obtain ⟨rfl, rfl, n1, n2, k1, k2, eN, b1, b2, lo, hi⟩ := hg
    rw [hl] at hcap ⊢
    clear eN hl hc
    go_enter Try.func8, Try.ntmps8
    go_wp2_with fail
    refine (cut_good _ _ n k nb _ cap c _ HG.out HL.out hcap (ha.alloc _)).mono ?_
    rintro e w1 ⟨g, rfl, hg, hrow, hbl, hb⟩
    have hx := (Boxed.mk w n k 45).below hb
    have hb := boxBelow hb
    go_wp2_with fail
    refine (parted_any _).mono ?_
    rintro e w2 ⟨rfl, hb2⟩
    have hx := hx.below hb2
    have hl1 := (rowIs_lies hrow).below hb2 (Nat.le_refl _)
    have hin := (cutBl_in (by omega) hbl).below hb2
    have hb := hb.trans (hb2.mono hb.size)
    clear hrow hbl hb2
    obtain ⟨j, hj, hat⟩ : ∃ j : Nat, j < nb ∧ atN x nb = (j : Int) := by
      have := atN_lt x (n := (nb : Int)) (by omega)
      exact ⟨(atN x nb).toNat, by omega, by omega⟩
    have HAT : Hid (atN x nb = (j : Int)) := hat
    clear hat
    go_wp2_with fail
    refine (at_any x nb _ hX (by omega) (by omega)).mono ?_
    rintro e w3 ⟨rfl, rfl⟩
    rw [HAT.out]
    obtain ⟨x0, x1⟩ := hx
    obtain ⟨p, hp⟩ : ∃ p, p = (1 + j) * k := ⟨_, rfl⟩
    have hpi : (1 + (j : Int)) * (k : Int) = (p : Int) := by rw [hp]; simp
    have HP : Hid (p = (1 + j) * k) := hp
    have HJK : Hid (j * k < n ∧ (1 + j) * k = j * k + k) := by
      have h1 := Nat.mul_le_mul_right k (show j ≤ nb - 1 by omega)
      exact ⟨by omega, by rw [Nat.add_mul, Nat.one_mul, Nat.add_comm]⟩
    have hp2 : p ≤ 400 := by
      have h1 := Nat.mul_le_mul (show 1 + j ≤ 24 by omega) k2
      omega
    clear hp
    by_cases hpn : (n : Int) < (p : Int)
    · have HM : Hid (1 ≤ n ∧ n ≤ n ∧ j * k < n ∧ n ≤ (j + 1) * k ∧ n = min ((j + 1) * k) c.length) := by
        show 1 ≤ n ∧ n ≤ n ∧ j * k < n ∧ n ≤ (j + 1) * k ∧ n = min ((j + 1) * k) c.length
        rw [HL.out]
        have := HP.out
        have := HJK.out
        rw [Nat.add_comm 1 j] at this
        have e := Nat.add_mul j 1 k
        rw [Nat.one_mul] at e
        have hq : p = (j + 1) * k := by rw [HP.out, Nat.add_comm]
        omega
      have G2 : Hid (Good n k n k (j + 1)) := good_mk HM.out.1 (Nat.le_trans HM.out.2.1 n2) k1 k2 (by omega) (by omega) (by rw [Nat.add_sub_cancel]; exact HM.out.2.2.1) HM.out.2.2.2.1
      have L2 : Hid ((c.take n).length = n) := by
        show (c.take n).length = n
        rw [List.length_take, HL.out]
        have := HM.out.2.1
        omega
      have HE : Hid ((cutL nb k c).take (1 + j) = cutL (j + 1) k (c.take n)) := by
        show (cutL nb k c).take (1 + j) = cutL (j + 1) k (c.take n)
        rw [Nat.add_comm 1 j]
        exact cut_take c (by omega) HM.out.2.2.2.2
      have hla : Lies w2.drew a (bs (c.take n)) := ((ha.below hb (Nat.le_refl _)).takeB n).below ((Below.refl w2.heap.size w2).drew) (Nat.le_refl _)
      have hcM : n ≤ cap := Nat.le_trans HM.out.2.1 hcap
      have hMn : (n : Int) ≤ (cap : Int) := by omega
      go_wp2
      go_region_with (go_at_call 22; refine (cut_good n k n k (j + 1) a cap (c.take n) _ G2.out L2.out hcM hla).mono ?_; rintro e w4 ⟨g2, rfl, hg2, hrow2, hbl2, hb2⟩)
      all_goals
        have hb2 : Below w2.heap.size w2 w4 := ((Below.refl w2.heap.size w2).drew).trans hb2
        have hl2 := rowIs_lies hrow2
        have hin2 := cutBl_in (by omega) hbl2
        have hl1 := hl1.below hb2 (Nat.le_refl _)
        have hin := hin.below hb2
        have hb := hb.trans (hb2.mono hb.size)
        clear hrow2 hbl2 hb2 hg2 x0 x1 hla hMn hcM
        go_wp2_with fail
        refine (equalFunc_n 34 enters34 cutBegins1 _ _ _ _ _ _ ((cutBl g nb k c).take (1 + j)) (cutBl g2 (j + 1) k (c.take n)) true _ (by simp [cutBl]; omega) (by simp [cutBl]) ?_ (by unfold maxLen; omega) (by unfold maxLen; omega) ?_ ?_ ?_ ?_).mono ?_
        · rw [List.map_take, cutBl_l, cutBl_l, HE.out]
          simp
        · rw [List.map_take, cutBl_val]
          exact hl1.takeV _
        · rw [cutBl_val]
          exact hl2
        · exact fun b hb => hin b (List.mem_of_mem_take hb)
        · exact hin2
        rintro e w5 ⟨rfl, n5, rfl⟩
        go_wp2
        go_ret
        exact ⟨rfl, hb.trans (bdn _ _ _)⟩
    · have HM : Hid (1 ≤ p ∧ p ≤ n ∧ j * k < p ∧ p ≤ (j + 1) * k ∧ p = min ((j + 1) * k) c.length) := by
        show 1 ≤ p ∧ p ≤ n ∧ j * k < p ∧ p ≤ (j + 1) * k ∧ p = min ((j + 1) * k) c.length
        rw [HL.out]
        have := HP.out
        have := HJK.out
        rw [Nat.add_comm 1 j] at this
        have e := Nat.add_mul j 1 k
        rw [Nat.one_mul] at e
        have hq : p = (j + 1) * k := by rw [HP.out, Nat.add_comm]
        omega
      have G2 : Hid (Good p k p k (j + 1)) := good_mk HM.out.1 (Nat.le_trans HM.out.2.1 n2) k1 k2 (by omega) (by omega) (by rw [Nat.add_sub_cancel]; exact HM.out.2.2.1) HM.out.2.2.2.1
      have L2 : Hid ((c.take p).length = p) := by
        show (c.take p).length = p
        rw [List.length_take, HL.out]
        have := HM.out.2.1
        omega
      have HE : Hid ((cutL nb k c).take (1 + j) = cutL (j + 1) k (c.take p)) := by
        show (cutL nb k c).take (1 + j) = cutL (j + 1) k (c.take p)
        rw [Nat.add_comm 1 j]
        exact cut_take c (by omega) HM.out.2.2.2.2
      have hla : Lies w2.drew a (bs (c.take p)) := ((ha.below hb (Nat.le_refl _)).takeB p).below ((Below.refl w2.heap.size w2).drew) (Nat.le_refl _)
      have hcM : p ≤ cap := Nat.le_trans HM.out.2.1 hcap
      have hMn : (p : Int) ≤ (cap : Int) := by omega
      go_wp2
      go_region_with (go_at_call 22; refine (cut_good p k p k (j + 1) a cap (c.take p) _ G2.out L2.out hcM hla).mono ?_; rintro e w4 ⟨g2, rfl, hg2, hrow2, hbl2, hb2⟩)
      all_goals
        have hb2 : Below w2.heap.size w2 w4 := ((Below.refl w2.heap.size w2).drew).trans hb2
        have hl2 := rowIs_lies hrow2
        have hin2 := cutBl_in (by omega) hbl2
        have hl1 := hl1.below hb2 (Nat.le_refl _)
        have hin := hin.below hb2
        have hb := hb.trans (hb2.mono hb.size)
        clear hrow2 hbl2 hb2 hg2 x0 x1 hla hMn hcM
        go_wp2_with fail
        refine (equalFunc_n 34 enters34 cutBegins1 _ _ _ _ _ _ ((cutBl g nb k c).take (1 + j)) (cutBl g2 (j + 1) k (c.take p)) true _ (by simp [cutBl]; omega) (by simp [cutBl]) ?_ (by unfold maxLen; omega) (by unfold maxLen; omega) ?_ ?_ ?_ ?_).mono ?_
        · rw [List.map_take, cutBl_l, cutBl_l, HE.out]
          simp
        · rw [List.map_take, cutBl_val]
          exact hl1.takeV _
        · rw [cutBl_val]
          exact hl2
        · exact fun b hb => hin b (List.mem_of_mem_take hb)
        · exact hin2
        rintro e w5 ⟨rfl, n5, rfl⟩
        go_wp2
        go_ret
        exact ⟨rfl, hb.trans (bdn _ _ _)⟩
  · have hc' : (cutCode B K c != 0) = true := by simpa using hc
    clear hc
    go_enter Try.func8, Try.ntmps8
    go_wp2_with fail
    refine (cut_any B K _ cap c _ hB hK HN.out hcap (ha.alloc _)).mono ?_
    rintro e w1 ⟨a1, bl, rfl, -, -, -, -, hb⟩
    have hb := boxBelow hb
    go_wp2_with fail
    refine (parted_any _).mono ?_
    rintro e w2 ⟨rfl, hb2⟩
    have hb := hb.trans (hb2.mono hb.size)
    clear hb2
    go_wp2_with fail
    refine (parted_any _).mono ?_
    rintro e w3 ⟨rfl, hb2⟩
    have hb := hb.trans (hb2.mono hb.size)
    clear hb2
    go_wp2
    go_ret
    exact ⟨rfl, hb⟩

end Go.Proofs.Ytdeeankioejnkaa
