/-
  CutBack: the walk.
-/
import Derived.Test.YtdeeankioejnkaaCut4
import Derived.RegionTactic
import Derived.BigRegion
import Derived.Deep.RegionWith
namespace Go.Proofs.Ytdeeankioejnkaa
open Go.RowKit
set_option linter.unusedVariables false
set_option linter.unusedSimpArgs false

theorem check_n (a : Option Addr) (n cap : Nat) (bl : List Blk) (v : Int) (w : World) (hl : bl.length = n) (hv : chk (lens bl) = v) (hn : n ≤ maxLen) (ha : Lies w a (bl.map Blk.val)) (hall : AllIn w bl) :
    Calls Try.prog 14 #[.slice a n cap] w fun e w' => e = .returned (.int .i64 v) ∧ w = w' := by
  subst hl hv
  exact check_any a cap bl w hn ha hall

theorem chk_cutBl {g nb k : Nat} {c : List UInt8} (k1 : 1 ≤ k) (k2 : k ≤ 16) (b1 : 1 ≤ nb) : chk (lens (cutBl g nb k c)) = 0 := by
  have e : lens (cutBl g nb k c) = List.replicate nb k := by
    unfold lens cutBl
    rw [List.map_map]
    refine List.eq_replicate_iff.2 ⟨by simp, fun x hx => ?_⟩
    obtain ⟨j, _, rfl⟩ := List.mem_map.1 hx
    exact piece_length _ _ _
  rw [e]
  have h : (List.replicate nb k).headD 0 = k := by
    cases nb with
    | zero => omega
    | succ m => rfl
  unfold chk
  rw [h]
  refine chkFrom_all fun i hi _ => ?_
  simp
  omega

set_option maxHeartbeats 4000000 in
theorem cutBack_walk (B K : Int) (a a0 : Option Addr) (cap cap0 : Nat) (c : List UInt8) (bl : List Blk) (w : World) (hB : I64 B) (hK : I64 K) (hn : c.length ≤ maxLen) (hcap : c.length ≤ cap) (ha : Lies w a (bs c))
    (hbn : bl.length * 24 ≤ 140737488355328) (h0 : Lies w a0 (bl.map Blk.val)) (hall : AllIn w bl) (hcaps : Caps bl) :
    Calls Try.prog 7 #[.agg #[.int .i64 B, .int .i64 K], .slice a c.length cap, .slice a0 bl.length cap0] w fun e w' => e = .returned (.bool true) ∧ Below w.heap.size w w' := by
  have HN : Hid (c.length ≤ maxLen) := hn
  have HBL : Hid (bl.length ≤ maxLen) := by
    show bl.length ≤ maxLen
    unfold maxLen
    omega
  clear hn
  by_cases hc : cutCode B K c = 0
  · obtain ⟨n, k, nb, hg, hl⟩ := cutCode_zero hc
    have HG : Hid (Good B K n k nb) := hg
    have HL : Hid (c.length = n) := hl
    have HJ : Hid (joinCode B K (cutL nb k c) = 0 ∧ joinRes B K (cutL nb k c) = c) := by
      have := join_cut hc
      rwa [(cutCode_good hg hl).2] at this
    obtain ⟨rfl, rfl, n1, n2, k1, k2, eN, b1, b2, lo, hi⟩ := hg
    rw [hl] at hcap ⊢
    have HEN : Hid (nB n k = nb) := eN
    obtain ⟨q, hq⟩ : ∃ q, q = nb * k := ⟨_, rfl⟩
    obtain ⟨q1, hq1⟩ : ∃ q1, q1 = (nb - 1) * k := ⟨_, rfl⟩
    have e1 : (nb : Int) * (k : Int) = (q : Int) := by rw [hq]; simp
    have e2 : ((nb : Int) - 1) * (k : Int) = (q1 : Int) := by
      rw [hq1]
      have : ((nb : Int) - 1) = ((nb - 1 : Nat) : Int) := by omega
      rw [this]
      simp
    have f1 : n ≤ q := by omega
    have f2 : q1 < n := by omega
    have f3 : q ≤ 400 := by
      have := Nat.mul_le_mul b2 k2
      omega
    have hself : ((nb : Int) != (nb : Int)) = false := by simp
    clear eN hl hc hq hq1
    go_enter Try.func7, Try.ntmps7
    go_wp2_with fail
    refine (cut_good _ _ n k nb _ cap c _ HG.out HL.out hcap (ha.alloc _)).mono ?_
    rintro e w1 ⟨g, rfl, hg, hrow, hbl, hb⟩
    have hx := (Boxed.mk w n k 45).below hb
    have HX : Hid (Boxed w1 w.heap.size n k) := hx
    have hb := boxBelow hb
    have hl1 : Lies w1 (some ⟨g, 0, none⟩) ((cutBl g nb k c).map Blk.val) := by rw [cutBl_val]; exact rowIs_lies hrow
    have hin : AllIn w1 (cutBl g nb k c) := cutBl_in k2 hbl
    obtain ⟨x0, x1⟩ := hx
    clear hrow hbl hg
    go_wp2_with fail
    refine (join_good _ _ n k nb _ _ (cutBl g nb k c) _ HG.out (by simp [cutBl]) hl1 hin (cutBl_caps _ _ _ _)).mono ?_
    rw [cutBl_l, HJ.out.1, HJ.out.2, HL.out]
    rintro e w2 ⟨a2, rfl, hl2, hb2⟩
    have hl1 := hl1.below hb2 (Nat.le_refl _)
    have hin := hin.below hb2
    have HX := HX.out.below hb2
    have hb := hb.trans (hb2.mono hb.size)
    clear hb2 x0 x1
    go_wp2_with fail
    refine (equalBytes_n _ _ _ _ _ _ c c true HL.out HL.out (by simp) (by unfold maxLen; omega) (by unfold maxLen; omega) hl2 (ha.below hb (Nat.le_refl _))).mono ?_
    rintro e w3 ⟨rfl, n3, rfl⟩
    have hl1 := hl1.drewN n3
    have hin : AllIn (w2.drewN n3) (cutBl g nb k c) := fun b hb => ⟨(hin b hb).1.drewN _, (hin b hb).2⟩
    have hx : Boxed (w2.drewN n3) w.heap.size n k := HX
    have hb := hb.trans (bdn w2 n3 _)
    clear HX hl2
    generalize w2.drewN n3 = w3 at *
    have HX : Hid (Boxed w3 w.heap.size n k) := hx
    obtain ⟨x0, x1⟩ := hx
    go_wp2_with fail
    refine (cutBlocks_any _ _ _ hB hK).mono ?_
    rw [HEN.out]
    rintro e w4 ⟨rfl, hb4⟩
    have hl1 := hl1.below hb4 (Nat.le_refl _)
    have hin := hin.below hb4
    have hx := HX.out.below hb4
    have hb := hb.trans (hb4.mono hb.size)
    clear hb4 x0 x1 HX
    have HX : Hid (Boxed w4 w.heap.size n k) := hx
    obtain ⟨x0, x1⟩ := hx
    go_wp2_with fail
    refine (check_n _ _ _ (cutBl g nb k c) 0 _ (by simp [cutBl]) (chk_cutBl k1 k2 b1) (by unfold maxLen; omega) hl1 hin).mono ?_
    rintro e w5 ⟨rfl, rfl⟩
    clear hl1 hin
    go_wp2
    have hb1 : Below w.heap.size w w4.drew := hb.drew
    have hx1 : Boxed w4.drew w.heap.size n k := ⟨x0, x1⟩
    have HX1 : Hid (Boxed w4.drew w.heap.size n k) := hx1
    have h1 : Lies w4.drew a0 (bl.map Blk.val) := h0.below hb1 (Nat.le_refl _)
    clear hx1
    go_region_with (first | (go_at_call 11; refine (blocks_any _ _ bl _ hbn h1).mono ?_; rintro e w6 ⟨v6, rfl, ho6, hb6⟩; obtain ⟨p6, q6, rfl, hl6, -⟩ := own_lies ho6; obtain ⟨y0, y1⟩ := HX1.out.below hb6) | (go_at_call 23; refine (join_any n k p6 q6 bl _ hB hK HBL.out hl6 (hall.below (hb1.trans (hb6.mono hb1.size))) hcaps).mono ?_; rintro e w7 ⟨a7, rfl, hl7, hb7⟩))
    all_goals
      have hx := (HX1.out.below hb6).below hb7
      have hb := (hb1.trans (hb6.mono hb1.size)).trans (hb7.mono (hb1.trans (hb6.mono hb1.size)).size)
      clear hb1 HX1 h1 hb6 hb7 hl6 ho6 y0 y1 x0 x1
      have HX : Hid (Boxed w7 w.heap.size n k) := hx
      clear hx
      by_cases hj : joinCode n k (bl.map Blk.l) = 0
      · obtain ⟨j1, j2⟩ := cut_join hj
        have J1 : Hid (cutCode n k (joinRes n k (bl.map Blk.l)) = 0) := j1
        have J2 : Hid (cutRes n k (joinRes n k (bl.map Blk.l)) = bl.map Blk.l) := j2
        have J3 : Hid ((joinRes n k (bl.map Blk.l)).length ≤ maxLen) := joinRes_len hj
        rw [hj]
        clear hj j1 j2
        generalize joinRes n k (bl.map Blk.l) = jr at *
        go_wp2_with fail
        refine (parted_any _).mono ?_
        rintro e w8 ⟨rfl, hb8⟩
        have hl7 := hl7.below hb8 (Nat.le_refl _)
        have hx := HX.out.below hb8
        have hb := hb.trans (hb8.mono hb.size)
        clear hb8 HX
        obtain ⟨x0, x1⟩ := hx
        go_wp2_with fail
        refine (cut_any n k _ _ jr _ hB hK J3.out (Nat.le_refl _) hl7).mono ?_
        rw [J1.out, J2.out]
        rintro e w9 ⟨a9, bl9, rfl, hl9, hin9, -, he9, hb9⟩
        have hb := hb.trans (hb9.mono hb.size)
        clear hb9 x0 x1 hl7
        have E9 : Hid (bl9.map Blk.l = bl.map Blk.l) := he9
        clear he9
        go_wp2_with fail
        refine (blocks_any _ _ bl _ hbn (h0.below hb (Nat.le_refl _))).mono ?_
        rintro e w10 ⟨v10, rfl, ho10, hb10⟩
        obtain ⟨p10, q10, rfl, hl10, -⟩ := own_lies ho10
        clear ho10
        have hl9 := hl9.below hb10 (Nat.le_refl _)
        have hin9 := hin9.below hb10
        have hb := hb.trans (hb10.mono hb.size)
        clear hb10
        have L9 : Hid (bl9.length = bl.length) := by
          have := congrArg List.length E9.out
          show bl9.length = bl.length
          simpa using this
        go_wp2_with fail
        refine (equalFunc_n 33 enters33 cutBack1 _ _ _ _ _ _ bl9 bl true _ rfl rfl (by rw [E9.out]; simp) (by rw [L9.out]; exact HBL.out) HBL.out hl9 hl10 hin9 (hall.below hb)).mono ?_
        rintro e w11 ⟨rfl, n11, rfl⟩
        go_wp2
        go_ret
        exact ⟨rfl, hb.trans (bdn _ _ _)⟩
      · have hj' : (joinCode n k (bl.map Blk.l) != 0) = true := by simpa using hj
        clear hj
        go_wp2_with fail
        refine (parted_any _).mono ?_
        rintro e w8 ⟨rfl, hb8⟩
        have hb := hb.trans (hb8.mono hb.size)
        clear hb8
        go_wp2_with fail
        refine (parted_any _).mono ?_
        rintro e w9 ⟨rfl, hb9⟩
        have hb := hb.trans (hb9.mono hb.size)
        clear hb9
        go_wp2
        go_ret
        exact ⟨rfl, hb⟩
  · have hc' : (cutCode B K c == 0) = false := by simpa using hc
    clear hc
    go_enter Try.func7, Try.ntmps7
    go_wp2_with fail
    refine (cut_any B K _ cap c _ hB hK HN.out hcap (ha.alloc _)).mono ?_
    rintro e w4 ⟨a1, bl1, rfl, -, -, -, -, hb⟩
    have hx := (Boxed.mk w B K 45).below hb
    have HX : Hid (Boxed w4 w.heap.size B K) := hx
    have hb := boxBelow hb
    obtain ⟨x0, x1⟩ := hx
    go_wp2
    have hb1 : Below w.heap.size w w4.drew := hb.drew
    have hx1 : Boxed w4.drew w.heap.size B K := ⟨x0, x1⟩
    have HX1 : Hid (Boxed w4.drew w.heap.size B K) := hx1
    have h1 : Lies w4.drew a0 (bl.map Blk.val) := h0.below hb1 (Nat.le_refl _)
    clear hx1
    go_region_with (first | (go_at_call 11; refine (blocks_any _ _ bl _ hbn h1).mono ?_; rintro e w6 ⟨v6, rfl, ho6, hb6⟩; obtain ⟨p6, q6, rfl, hl6, -⟩ := own_lies ho6; obtain ⟨y0, y1⟩ := HX1.out.below hb6) | (go_at_call 23; refine (join_any B K p6 q6 bl _ hB hK HBL.out hl6 (hall.below (hb1.trans (hb6.mono hb1.size))) hcaps).mono ?_; rintro e w7 ⟨a7, rfl, hl7, hb7⟩))
    all_goals
      have hx := (HX1.out.below hb6).below hb7
      have hb := (hb1.trans (hb6.mono hb1.size)).trans (hb7.mono (hb1.trans (hb6.mono hb1.size)).size)
      clear hb1 HX1 h1 hb6 hb7 hl6 ho6 y0 y1 x0 x1
      have HX : Hid (Boxed w7 w.heap.size B K) := hx
      clear hx
      by_cases hj : joinCode B K (bl.map Blk.l) = 0
      · obtain ⟨j1, j2⟩ := cut_join hj
        have J1 : Hid (cutCode B K (joinRes B K (bl.map Blk.l)) = 0) := j1
        have J2 : Hid (cutRes B K (joinRes B K (bl.map Blk.l)) = bl.map Blk.l) := j2
        have J3 : Hid ((joinRes B K (bl.map Blk.l)).length ≤ maxLen) := joinRes_len hj
        rw [hj]
        clear hj j1 j2
        generalize joinRes B K (bl.map Blk.l) = jr at *
        go_wp2_with fail
        refine (parted_any _).mono ?_
        rintro e w8 ⟨rfl, hb8⟩
        have hl7 := hl7.below hb8 (Nat.le_refl _)
        have hx := HX.out.below hb8
        have hb := hb.trans (hb8.mono hb.size)
        clear hb8 HX
        obtain ⟨x0, x1⟩ := hx
        go_wp2_with fail
        refine (cut_any B K _ _ jr _ hB hK J3.out (Nat.le_refl _) hl7).mono ?_
        rw [J1.out, J2.out]
        rintro e w9 ⟨a9, bl9, rfl, hl9, hin9, -, he9, hb9⟩
        have hb := hb.trans (hb9.mono hb.size)
        clear hb9 x0 x1 hl7
        have E9 : Hid (bl9.map Blk.l = bl.map Blk.l) := he9
        clear he9
        go_wp2_with fail
        refine (blocks_any _ _ bl _ hbn (h0.below hb (Nat.le_refl _))).mono ?_
        rintro e w10 ⟨v10, rfl, ho10, hb10⟩
        obtain ⟨p10, q10, rfl, hl10, -⟩ := own_lies ho10
        clear ho10
        have hl9 := hl9.below hb10 (Nat.le_refl _)
        have hin9 := hin9.below hb10
        have hb := hb.trans (hb10.mono hb.size)
        clear hb10
        have L9 : Hid (bl9.length = bl.length) := by
          have := congrArg List.length E9.out
          show bl9.length = bl.length
          simpa using this
        go_wp2_with fail
        refine (equalFunc_n 33 enters33 cutBack1 _ _ _ _ _ _ bl9 bl true _ rfl rfl (by rw [E9.out]; simp) (by rw [L9.out]; exact HBL.out) HBL.out hl9 hl10 hin9 (hall.below hb)).mono ?_
        rintro e w11 ⟨rfl, n11, rfl⟩
        go_wp2
        go_ret
        exact ⟨rfl, hb.trans (bdn _ _ _)⟩
      · have hj' : (joinCode B K (bl.map Blk.l) != 0) = true := by simpa using hj
        clear hj
        go_wp2_with fail
        refine (parted_any _).mono ?_
        rintro e w8 ⟨rfl, hb8⟩
        have hb := hb.trans (hb8.mono hb.size)
        clear hb8
        go_wp2_with fail
        refine (parted_any _).mono ?_
        rintro e w9 ⟨rfl, hb9⟩
        have hb := hb.trans (hb9.mono hb.size)
        clear hb9
        go_wp2
        go_ret
        exact ⟨rfl, hb⟩

end Go.Proofs.Ytdeeankioejnkaa
