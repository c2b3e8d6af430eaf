/-
  The walk of CodeSays, over whatever Make and Check answer as chapter 4 asks.
-/
import Derived.Test.YtdhholcbmeoagabDoorCode2
import Derived.Test.YtdhholcbmeoagabDoorCode3
import Derived.Deep.RegionHeld3
import Derived.Deep.CutBlock
namespace Go.Proofs.YtdhholcbmeoagabDoor
open Go.RowKit
set_option linter.unusedVariables false
set_option linter.unusedSimpArgs false

/-- the boxes of a plan and three symbols -/
def C8 (gp gs gt gu : Nat) (B K i j m : Int) (d1 d2 d3 : Value) (w : World) : Prop :=
  w.cell? ⟨gp, 0, none⟩ = some (.int .i64 B) ∧ w.cell? ⟨gp, 1, none⟩ = some (.int .i64 K) ∧ w.cell? ⟨gs, 0, none⟩ = some (.int .i64 i) ∧ w.cell? ⟨gs, 1, none⟩ = some d1 ∧
    w.cell? ⟨gt, 0, none⟩ = some (.int .i64 j) ∧ w.cell? ⟨gt, 1, none⟩ = some d2 ∧ w.cell? ⟨gu, 0, none⟩ = some (.int .i64 m) ∧ w.cell? ⟨gu, 1, none⟩ = some d3

theorem C8.below {gp gs gt gu : Nat} {B K i j m : Int} {d1 d2 d3 : Value} {w w' : World} (h : C8 gp gs gt gu B K i j m d1 d2 d3 w) (hb : Below w.heap.size w w') : C8 gp gs gt gu B K i j m d1 d2 d3 w' :=
  ⟨cellB h.1 hb, cellB h.2.1 hb, cellB h.2.2.1 hb, cellB h.2.2.2.1 hb, cellB h.2.2.2.2.1 hb, cellB h.2.2.2.2.2.1 hb, cellB h.2.2.2.2.2.2.1 hb, cellB h.2.2.2.2.2.2.2 hb⟩

theorem symRes_max (B K : Int) (c : List UInt8) (id : Int) : (symRes B K c id).length ≤ maxLen := by
  unfold symRes
  split
  · rw [symL_length]
    rename_i h
    have hc : cutCode B K c = 0 := by
      unfold symCode at h
      by_cases e : cutCode B K c = 0
      · exact e
      · rw [if_pos e] at h; exact absurd h e
    obtain ⟨n, k, nb, g, _⟩ := cutCode_zero hc
    have := g.k2
    have := g.eK
    unfold maxLen
    omega
  · simp

set_option maxHeartbeats 2000000 in
theorem W_codeSays (hM : MakeOk) (hC : CheckOk) (B K : Int) (a : Option Addr) (cap : Nat) (c : List UInt8) (id sid : Int) (sa : Option Addr) (sn sc : Nat) (w : World) (hB : I64 B) (hK : I64 K) (hn : c.length ≤ maxLen) (hcap : c.length ≤ cap) (ha : Lies w a (bs c)) (hsn : sn ≤ maxLen) (hL : Laid w) :
    Calls Tryd.prog 5 #[.agg #[.int .i64 B, .int .i64 K], .slice a c.length cap, .int .i64 id, .agg #[.int .i64 sid, .slice sa sn sc]] w fun e w' => e = .returned (.bool true) ∧ Below w.heap.size w w' := by
  have HN := Shut.mk hn
  have HSN := Shut.mk hsn
  have HCAP := Shut.mk hcap
  clear hn hsn hcap
  go_enter Tryd.func5, Tryd.ntmps5
  go_wp2_with fail
  have bw : Below w.heap.size w ((w.alloc (.cells #[.int .i64 B, .int .i64 K] 34)).alloc (.cells #[.int .i64 sid, .slice sa sn sc] 38)) := ((Below.refl _ _).alloc (Nat.le_refl _) _).alloc (by simp) _
  refine (hM B K id a cap c _ hB hK HN.out HCAP.out (ha.below bw (Nat.le_refl _)) (hL.below bw)).mono ?_
  rintro e w1 ⟨a1, c1, rfl, hl1, hb1⟩
  obtain ⟨p0, p1, s0, s1⟩ := boxes2 hb1
  have hb : Below w.heap.size w w1 := boxBelow (boxBelow hb1)
  clear hb1 bw
  obtain ⟨R, hR⟩ : ∃ R, symRes B K c id = R := ⟨_, rfl⟩
  obtain ⟨I, hI⟩ : ∃ I, symID B K c id = I := ⟨_, rfl⟩
  obtain ⟨E, hE⟩ : ∃ E, symCode B K c id = E := ⟨_, rfl⟩
  rw [hR] at hl1
  rw [hR, hI, hE]
  have HR := Shut.mk hR
  have HI := Shut.mk hI
  have HE := Shut.mk hE
  clear hR hI hE
  go_upto_region 2 with fail
  obtain ⟨t0, t1⟩ := BoxS.mk w1 I (.slice a1 R.length c1) 38
  have bd : Below w1.heap.size w1 (w1.alloc (.cells #[.int .i64 I, .slice a1 R.length c1] 38)) := (Below.refl _ _).alloc (Nat.le_refl _) _
  replace p0 := cellB p0 bd
  replace p1 := cellB p1 bd
  replace s0 := cellB s0 bd
  replace s1 := cellB s1 bd
  replace hl1 := hl1.below bd (Nat.le_refl _)
  replace hb := hb.trans (bd.mono hb.size)
  clear bd
  generalize w1.alloc (.cells #[.int .i64 I, .slice a1 R.length c1] 38) = w2 at *
  go_wp2_with fail
  refine (symbolOf_any B K id a cap c _ hB hK HN.out (ha.below hb (Nat.le_refl _))).mono ?_
  rintro e w3 ⟨a3, c3, rfl, hl3, hb3⟩
  rw [HR.out] at hl3
  rw [HR.out, HI.out, HE.out]
  replace p0 := cellB p0 hb3
  replace p1 := cellB p1 hb3
  replace s0 := cellB s0 hb3
  replace s1 := cellB s1 hb3
  replace t0 := cellB t0 hb3
  replace t1 := cellB t1 hb3
  replace hl1 := hl1.below hb3 (Nat.le_refl _)
  replace hb := hb.trans (hb3.mono hb.size)
  clear hb3
  go_upto_region 3 with fail
  obtain ⟨u0, u1⟩ := BoxS.mk w3 I (.slice a3 R.length c3) 38
  have bd : Below w3.heap.size w3 (w3.alloc (.cells #[.int .i64 I, .slice a3 R.length c3] 38)) := (Below.refl _ _).alloc (Nat.le_refl _) _
  replace p0 := cellB p0 bd
  replace p1 := cellB p1 bd
  replace s0 := cellB s0 bd
  replace s1 := cellB s1 bd
  replace t0 := cellB t0 bd
  replace t1 := cellB t1 bd
  replace hl1 := hl1.below bd (Nat.le_refl _)
  replace hl3 := hl3.below bd (Nat.le_refl _)
  replace hb := hb.trans (bd.mono hb.size)
  clear bd
  generalize w3.alloc (.cells #[.int .i64 I, .slice a3 R.length c3] 38) = w4 at *
  have MR : Shut (R.length ≤ maxLen) := ⟨by rw [← HR.out]; exact symRes_max _ _ _ _⟩
  have HX : Shut (C8 w.heap.size (w.heap.size + 1) w1.heap.size w3.heap.size B K sid I I (.slice sa sn sc) (.slice a1 R.length c1) (.slice a3 R.length c3) w4.drew) := ⟨p0, p1, s0, s1, t0, t1, u0, u1⟩
  have bd : Below w4.heap.size w4 w4.drew := (Below.refl w4.heap.size w4).drew
  replace hl1 := hl1.below bd (Nat.le_refl _)
  replace hl3 := hl3.below bd (Nat.le_refl _)
  replace hb := hb.trans (bd.mono hb.size)
  have hLd := hL.below hb
  clear bd p0 p1 s0 s1 t0 t1 u0 u1
  obtain ⟨p0, p1, s0, s1, t0, t1, u0, u1⟩ := HX.out
  go_region_held3 (fun w' => w'.cell? ⟨w.heap.size, 0, none⟩ = some (.int .i64 B) ∧ w'.cell? ⟨w.heap.size, 1, none⟩ = some (.int .i64 K) ∧ w'.cell? ⟨w.heap.size + 1, 0, none⟩ = some (.int .i64 sid) ∧ w'.cell? ⟨w.heap.size + 1, 1, none⟩ = some (.slice sa sn sc) ∧ w'.cell? ⟨w1.heap.size, 0, none⟩ = some (.int .i64 I) ∧ w'.cell? ⟨w1.heap.size, 1, none⟩ = some (.slice a1 R.length c1) ∧ w'.cell? ⟨w3.heap.size, 0, none⟩ = some (.int .i64 I) ∧ w'.cell? ⟨w3.heap.size, 1, none⟩ = some (.slice a3 R.length c3)) (exact ⟨by assumption, by assumption, by assumption, by assumption, by assumption, by assumption, by assumption, by assumption⟩) (first
    | (go_at_call 14; refine (made_any hM hC _ hLd).mono ?_; rintro e w5 ⟨rfl, hb5⟩; obtain ⟨xp0, xp1, xs0, xs1, xt0, xt1, xu0, xu1⟩ := HX.out.below hb5)
    | (go_at_call 15; refine (hC B K sid sa sn sc _ hB hK HSN.out).mono ?_; rintro e w6 ⟨rfl, hb6⟩; obtain ⟨yp0, yp1, ys0, ys1, yt0, yt1, yu0, yu1⟩ := (HX.out.below hb5).below hb6)
    | (go_at_call 16; refine (checkSymbol_any B K sid sa sn sc _ hB hK HSN.out).mono ?_; rintro e w7 ⟨rfl, hb7⟩; obtain ⟨zp0, zp1, zs0, zs1, zt0, zt1, zu0, zu1⟩ := ((HX.out.below hb5).below hb6).below hb7)
    | (go_at_call 17; refine (equalBlock (w := w7) a1 a3 c1 c3 R R MR.out MR.out (((hl1.below hb5 (Nat.le_refl _)).below hb6 (Nat.le_refl _)).below hb7 (Nat.le_refl _)) (((hl3.below hb5 (Nat.le_refl _)).below hb6 (Nat.le_refl _)).below hb7 (Nat.le_refl _))).mono ?_; rintro e w8 ⟨rfl, n8, rfl⟩; obtain ⟨vp0, vp1, vs0, vs1, vt0, vt1, vu0, vu1⟩ := (((HX.out.below hb5).below hb6).below hb7).below (bdn w7 n8 _)))
  all_goals
    go_wp2
    go_ret
    exact ⟨rfl, (((hb.trans (hb5.mono hb.size)).trans (hb6.mono (hb.trans (hb5.mono hb.size)).size)).trans (hb7.mono ((hb.trans (hb5.mono hb.size)).trans (hb6.mono (hb.trans (hb5.mono hb.size)).size)).size)).trans (bdn _ _ _)⟩

end Go.Proofs.YtdhholcbmeoagabDoor
