/-
  CutSays: the walk.
-/
import Derived.Test.YtdeeankioejnkaaCut4
import Derived.Test.YtdeeankioejnkaaCut6
import Derived.Test.YtdeeankioejnkaaCut7
import Derived.RegionTactic
import Derived.BigRegion
import Derived.Deep.RegionWith
import Derived.Deep.RegionHeld3
namespace Go.Proofs.Ytdeeankioejnkaa
open Go.RowKit
set_option linter.unusedVariables false
set_option linter.unusedSimpArgs false

theorem cutRes_len (B K : Int) (c : List UInt8) : (cutRes B K c).length ≤ maxLen := by
  by_cases h : cutCode B K c = 0
  · obtain ⟨n, k, nb, g, hl⟩ := cutCode_zero h
    rw [(cutCode_good g hl).2, cutL_length]
    have := g.b2
    unfold maxLen
    omega
  · simp [cutRes, h]

theorem joinRes_max (B K : Int) (ls : List (List UInt8)) : (joinRes B K ls).length ≤ maxLen := by
  by_cases h : joinCode B K ls = 0
  · exact joinRes_len h
  · simp [joinRes, h]

theorem blk_len {bl : List Blk} {ls : List (List UInt8)} (h : bl.map Blk.l = ls) : bl.length = ls.length := by
  have := congrArg List.length h
  simpa using this

set_option maxHeartbeats 8000000 in
theorem cutSays_walk (B K : Int) (a a0 : Option Addr) (cap cap0 : Nat) (c : List UInt8) (bl : List Blk) (w : World) (hB : I64 B) (hK : I64 K) (hn : c.length ≤ maxLen) (hcap : c.length ≤ cap) (ha : Lies w a (bs c))
    (hbn : bl.length * 24 ≤ 140737488355328) (h0 : Lies w a0 (bl.map Blk.val)) (hall : AllIn w bl) (hcaps : Caps bl) (htot : ((bl.map Blk.l).flatten).length ≤ 1048576) :
    Calls Try.prog 6 #[.agg #[.int .i64 B, .int .i64 K], .slice a c.length cap, .slice a0 bl.length cap0] w fun e w' => e = .returned (.bool true) ∧ Below w.heap.size w w' := by
  have HN : Hid (c.length ≤ maxLen) := hn
  have HT : Hid (((bl.map Blk.l).flatten).length ≤ 1048576) := htot
  have HBL : Hid (bl.length ≤ maxLen) := by
    show bl.length ≤ maxLen
    unfold maxLen
    omega
  have hc1 : (cutCode B K c == cutCode B K c) = true := by simp
  have hc2 : (joinCode B K (bl.map Blk.l) == joinCode B K (bl.map Blk.l)) = true := by simp
  have hc3 : (chkP B K == chkP B K) = true := by simp
  have hc4 : (nB B K == nB B K) = true := by simp
  clear hn htot
  go_enter Try.func6, Try.ntmps6
  go_wp2_with fail
  refine (cut_any B K _ cap c _ hB hK HN.out hcap (ha.alloc _)).mono ?_
  rintro e w1 ⟨a1, bl1, rfl, hl1, hin1, -, he1, hb⟩
  have E1 : Hid (bl1.map Blk.l = cutRes B K c) := he1
  have hx := (Boxed.mk w B K 45).below hb
  have hb := boxBelow hb
  obtain ⟨x0, x1⟩ := hx
  clear he1
  go_wp2
  have hb1 : Below w.heap.size w w1.drew := hb.drew
  have HX1 : Hid (Boxed w1.drew w.heap.size B K) := ⟨x0, x1⟩
  have h1 : Lies w1.drew a0 (bl.map Blk.val) := h0.below hb1 (Nat.le_refl _)
  have hl1 : Lies w1.drew a1 (bl1.map Blk.val) := hl1.below ((Below.refl w1.heap.size w1).drew) (Nat.le_refl _)
  have hin1 : AllIn w1.drew bl1 := hin1.below ((Below.refl w1.heap.size w1).drew)
  clear hb
  obtain ⟨x0, x1⟩ := HX1.out
  go_region_held3 (fun w' => w'.cell? ⟨w.heap.size, 0, none⟩ = some (.int .i64 B) ∧ w'.cell? ⟨w.heap.size, 1, none⟩ = some (.int .i64 K)) (exact ⟨by assumption, by assumption⟩) (first | (go_at_call 11; refine (blocks_any _ _ bl _ hbn h1).mono ?_; rintro e w2 ⟨v2, rfl, ho2, hb2⟩; obtain ⟨p2, q2, rfl, hl2, -⟩ := own_lies ho2; obtain ⟨y0, y1⟩ := HX1.out.below hb2) | (go_at_call 23; refine (join_any B K p2 q2 bl _ hB hK HBL.out hl2 (hall.below (hb1.trans (hb2.mono hb1.size))) hcaps).mono ?_; rintro e w3 ⟨a3, rfl, hl3, hb3⟩; obtain ⟨z0, z1⟩ := (HX1.out.below hb2).below hb3))
  all_goals
    have hl1 := (hl1.below hb2 (Nat.le_refl _)).below hb3 (Nat.le_refl _)
    have hin1 := (hin1.below hb2).below hb3
    have hx := (HX1.out.below hb2).below hb3
    have hb := (hb1.trans (hb2.mono hb1.size)).trans (hb3.mono (hb1.trans (hb2.mono hb1.size)).size)
    clear hb1 HX1 h1 hb2 hb3 hl2 ho2 y0 y1 x0 x1 z0 z1
    have HX : Hid (Boxed w3 w.heap.size B K) := hx
    obtain ⟨x0, x1⟩ := hx
    go_wp2_with fail
    refine (cutUp_any B K _ cap c _ hB hK HN.out (ha.below hb (Nat.le_refl _))).mono ?_
    rintro e w4 ⟨a4, c4, bl4, rfl, hl4, hin4, he4, hb4⟩
    have E4 : Hid (bl4.map Blk.l = cutRes B K c) := he4
    have hl1 := hl1.below hb4 (Nat.le_refl _)
    have hin1 := hin1.below hb4
    have hl3 := hl3.below hb4 (Nat.le_refl _)
    have hx := HX.out.below hb4
    have hb := hb.trans (hb4.mono hb.size)
    clear he4 hb4 x0 x1 HX
    obtain ⟨x0, x1⟩ := hx
    go_wp2
    have hb1 : Below w.heap.size w w4.drew := hb.drew
    have HX1 : Hid (Boxed w4.drew w.heap.size B K) := ⟨x0, x1⟩
    have h1 : Lies w4.drew a0 (bl.map Blk.val) := h0.below hb1 (Nat.le_refl _)
    have bd : Below w4.heap.size w4 w4.drew := (Below.refl w4.heap.size w4).drew
    have hl1 : Lies w4.drew a1 (bl1.map Blk.val) := hl1.below bd (Nat.le_refl _)
    have hin1 : AllIn w4.drew bl1 := hin1.below bd
    have hl4 : Lies w4.drew a4 (bl4.map Blk.val) := hl4.below bd (Nat.le_refl _)
    have hin4 : AllIn w4.drew bl4 := hin4.below bd
    have hl3 : Lies w4.drew a3 (bs (joinRes B K (bl.map Blk.l))) := hl3.below bd (Nat.le_refl _)
    clear hb bd
    obtain ⟨x0, x1⟩ := HX1.out
    go_region_held3 (fun w' => w'.cell? ⟨w.heap.size, 0, none⟩ = some (.int .i64 B) ∧ w'.cell? ⟨w.heap.size, 1, none⟩ = some (.int .i64 K)) (exact ⟨by assumption, by assumption⟩) (first | (go_at_call 11; refine (blocks_any _ _ bl _ hbn h1).mono ?_; rintro e w5 ⟨v5, rfl, ho5, hb5⟩; obtain ⟨p5, q5, rfl, hl5, -⟩ := own_lies ho5; obtain ⟨y0, y1⟩ := HX1.out.below hb5) | (go_at_call 25; refine (joined_any B K p5 q5 bl _ hB hK HBL.out HT.out hl5 (hall.below (hb1.trans (hb5.mono hb1.size)))).mono ?_; rintro e w6 ⟨a6, c6, rfl, hl6, hb6⟩; obtain ⟨z0, z1⟩ := (HX1.out.below hb5).below hb6))
    all_goals
      have hl1 := (hl1.below hb5 (Nat.le_refl _)).below hb6 (Nat.le_refl _)
      have hin1 := (hin1.below hb5).below hb6
      have hl4 := (hl4.below hb5 (Nat.le_refl _)).below hb6 (Nat.le_refl _)
      have hin4 := (hin4.below hb5).below hb6
      have hl3 := (hl3.below hb5 (Nat.le_refl _)).below hb6 (Nat.le_refl _)
      have hx := (HX1.out.below hb5).below hb6
      have hb := (hb1.trans (hb5.mono hb1.size)).trans (hb6.mono (hb1.trans (hb5.mono hb1.size)).size)
      clear hb1 HX1 h1 hb5 hb6 hl5 ho5 y0 y1 x0 x1 z0 z1
      have HX : Hid (Boxed w6 w.heap.size B K) := hx
      have L1 : Hid (bl1.length = bl4.length) := Hid.mk' (by rw [blk_len E1.out, blk_len E4.out])
      have M4 : Hid (bl4.length ≤ maxLen) := Hid.mk' (by rw [blk_len E4.out]; exact cutRes_len _ _ _)
      go_wp2_with fail
      refine (equalFunc_n 27 enters27 cutSays1 _ _ _ _ _ _ bl1 bl4 true _ rfl rfl (by rw [E1.out, E4.out]; simp) (by rw [L1.out]; exact M4.out) M4.out hl1 hl4 hin1 hin4).mono ?_
      rintro e w7 ⟨rfl, n7, rfl⟩
      clear hl1 hl4 hin1 hin4
      have hx : Boxed (w6.drewN n7) w.heap.size B K := hx
      have hb : Below w.heap.size w (w6.drewN n7) := hb.trans (bdn _ _ _)
      have hl3 := hl3.drewN n7
      have hl6 := hl6.drewN n7
      clear HX
      generalize w6.drewN n7 = w7 at *
      have bd : Below w7.heap.size w7 w7.drew := (Below.refl w7.heap.size w7).drew
      have hb : Below w.heap.size w w7.drew := hb.drew
      have hl3 : Lies w7.drew a3 (bs (joinRes B K (bl.map Blk.l))) := hl3.below bd (Nat.le_refl _)
      have hl6 : Lies w7.drew a6 (bs (joinRes B K (bl.map Blk.l))) := hl6.below bd (Nat.le_refl _)
      have HX : Hid (Boxed w7.drew w.heap.size B K) := hx.below bd
      clear hx bd
      have MJ : Hid ((joinRes B K (bl.map Blk.l)).length ≤ maxLen) := joinRes_max _ _ _
      go_wp2
      generalize joinRes B K (bl.map Blk.l) = jr at *
      obtain ⟨x0, x1⟩ := HX.out
      go_region_held3 (fun w' => w'.cell? ⟨w.heap.size, 0, none⟩ = some (.int .i64 B) ∧ w'.cell? ⟨w.heap.size, 1, none⟩ = some (.int .i64 K)) (exact ⟨by assumption, by assumption⟩) (first
        | (go_at_call 28; refine (parted_any _).mono ?_; rintro e w8 ⟨rfl, hb8⟩; obtain ⟨y0, y1⟩ := HX.out.below hb8)
        | (go_at_call 29; refine (cutCheck_any B K _ hB hK).mono ?_; rintro e w9 ⟨rfl, hb9⟩; obtain ⟨z0, z1⟩ := (HX.out.below hb8).below hb9)
        | (go_at_call 30; refine (checkPlan_any B K _ hB hK).mono ?_; rintro e w10 ⟨rfl, hb10⟩; obtain ⟨u0, u1⟩ := ((HX.out.below hb8).below hb9).below hb10)
        | (go_at_call 31; refine (cutBlocks_any B K _ hB hK).mono ?_; rintro e w11 ⟨rfl, hb11⟩; obtain ⟨v0, v1⟩ := (((HX.out.below hb8).below hb9).below hb10).below hb11)
        | (go_at_call 32; refine (refBlocks_any B K _ hB hK).mono ?_; rintro e w12 ⟨rfl, hb12⟩; obtain ⟨t0, t1⟩ := ((((HX.out.below hb8).below hb9).below hb10).below hb11).below hb12; have hbb := ((((hb8.trans (hb9.mono hb8.size)).trans (hb10.mono (hb8.trans (hb9.mono hb8.size)).size)).trans (hb11.mono ((hb8.trans (hb9.mono hb8.size)).trans (hb10.mono (hb8.trans (hb9.mono hb8.size)).size)).size)).trans (hb12.mono (((hb8.trans (hb9.mono hb8.size)).trans (hb10.mono (hb8.trans (hb9.mono hb8.size)).size)).trans (hb11.mono ((hb8.trans (hb9.mono hb8.size)).trans (hb10.mono (hb8.trans (hb9.mono hb8.size)).size)).size)).size)))
        | (go_at_call 16; refine (equalBytes_n _ _ _ _ _ _ jr jr true rfl rfl (by simp) MJ.out MJ.out (hl3.below hbb (Nat.le_refl _)) (hl6.below hbb (Nat.le_refl _))).mono ?_; rintro e w13 ⟨rfl, n13, rfl⟩; obtain ⟨s0, s1⟩ := (((((HX.out.below hb8).below hb9).below hb10).below hb11).below hb12).below (bdn w12 n13 _)))
      all_goals
        go_wp2
        go_ret
        exact ⟨rfl, (hb.trans (hbb.mono hb.size)).trans (bdn _ _ _)⟩

end Go.Proofs.Ytdeeankioejnkaa
