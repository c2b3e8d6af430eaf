/-
  'made', the closed fact of chapter 4's statements, over whatever Make and Check answer as chapter 4 asks.
-/
import Derived.Test.YtdhholcbmeoagabDoorCode1
import Derived.Test.YtdhholcbmeoagabDoorPick1
import Derived.Test.YtdhholcbmeoagabDoorPick3
import Derived.Test.YtdhholcbmeoagabDoorHasB
import Derived.Test.YtdhholcbmeoagabDoorEq
import Derived.Deep.CutBlock
namespace Go.Proofs.YtdhholcbmeoagabDoor
open Go.RowKit
set_option linter.unusedVariables false
set_option linter.unusedSimpArgs false

/-- code.Make answers as chapter 4 asks -/
def MakeOk : Prop := ∀ (B K id : Int) (a : Option Addr) (cap : Nat) (c : List UInt8) (w : World), I64 B → I64 K → c.length ≤ maxLen → c.length ≤ cap → Lies w a (bs c) → Laid w →
    Calls Tryd.prog 12 #[.agg #[.int .i64 B, .int .i64 K], .slice a c.length cap, .int .i64 id] w fun e w' =>
      ∃ (a' : Option Addr) (c' : Nat), e = .returned (.tuple #[.agg #[.int .i64 (symID B K c id), .slice a' (symRes B K c id).length c'], .int .i64 (symCode B K c id)]) ∧ Lies w' a' (bs (symRes B K c id)) ∧ Below w.heap.size w w'

/-- code.Check answers as chapter 4 asks -/
def CheckOk : Prop := ∀ (B K id : Int) (a : Option Addr) (n cap : Nat) (w : World), I64 B → I64 K → n ≤ maxLen →
    Calls Tryd.prog 15 #[.agg #[.int .i64 B, .int .i64 K], .agg #[.int .i64 id, .slice a n cap]] w fun e w' => e = .returned (.int .i64 (chkS B K id n)) ∧ Below w.heap.size w w'

theorem cellB {w w' : World} {b o : Nat} {v : Value} (h : w.cell? ⟨b, o, none⟩ = some v) (hb : Below w.heap.size w w') : w'.cell? ⟨b, o, none⟩ = some v := by
  have := World.block_lt_of_cell? w _ h
  rw [(bcell hb).1 b o this]
  exact h

theorem cellA {w : World} {b o : Nat} {v : Value} (h : w.cell? ⟨b, o, none⟩ = some v) (ob : Obj) : (w.alloc ob).cell? ⟨b, o, none⟩ = some v := cellB h ((Below.refl _ _).alloc (Nat.le_refl _) _)

theorem good31 : Good 3 1 3 1 3 := ⟨rfl, rfl, by omega, by omega, by omega, by omega, by decide, by omega, by omega, by omega, by omega⟩

theorem code31 (id : Int) (h : ¬ (id < 0 ∨ 9999 < id)) : symCode 3 1 [1, 2, 4] id = 0 ∧ symID 3 1 [1, 2, 4] id = id ∧ symRes 3 1 [1, 2, 4] id = symL 3 1 [1, 2, 4] id.toNat := by
  have hc : cutCode 3 1 [1, 2, 4] = 0 := (cutCode_good good31 rfl).1
  have e : symCode 3 1 [1, 2, 4] id = 0 := by rw [symCode, if_neg (by simp [hc]), if_neg h]
  refine ⟨e, by simp [symID, e], ?_⟩
  rw [symRes, if_pos e, good31.eN]
  rfl

theorem sym7 : symL 3 1 [1, 2, 4] 7 = [5] := by
  rw [symL, chosen_7]
  decide

theorem sym2 : symL 3 1 [1, 2, 4] 2 = [4] := by
  rw [symL, chosen_low (by decide)]
  decide

theorem make31 (hM : MakeOk) (w : World) (hL : Laid w) (b : Nat) (hl : Lies w (some ⟨b, 0, none⟩) [.int .u8 1, .int .u8 2, .int .u8 4]) (id : Int) (x : UInt8) (h : ¬ (id < 0 ∨ 9999 < id)) (hx : symL 3 1 [1, 2, 4] id.toNat = [x]) :
    Calls Tryd.prog 12 #[.agg #[.int .i64 3, .int .i64 1], .slice (some ⟨b, 0, none⟩) 3 3, .int .i64 id] w fun e w' =>
      ∃ (a' : Option Addr) (c' : Nat), e = .returned (.tuple #[.agg #[.int .i64 id, .slice a' 1 c'], .int .i64 0]) ∧ Lies w' a' [.int .u8 (x.toNat : Int)] ∧ Below w.heap.size w w' := by
  have hc := hM 3 1 id (some ⟨b, 0, none⟩) 3 [1, 2, 4] w ⟨by omega, by omega⟩ ⟨by omega, by omega⟩ (by unfold maxLen; simp) (by simp) hl hL
  obtain ⟨e1, e2, e3⟩ := code31 id h
  rw [e1, e2, e3, hx] at hc
  refine hc.mono ?_
  rintro e w' ⟨a', c', rfl, h1, h2⟩
  exact ⟨a', c', rfl, h1, h2⟩

set_option maxHeartbeats 1000000 in
theorem made_any (hM : MakeOk) (hC : CheckOk) (w : World) (hL : Laid w) : Calls Tryd.prog 14 #[] w fun e w' => e = .returned (.bool true) ∧ Below w.heap.size w w' := by
  go_enter Tryd.func14, Tryd.ntmps14
  go_wp2_with fail
  have hl0 : Lies ((w.alloc (.cells #[.int .i64 3, .int .i64 1] 34)).alloc (.cells #[.int .u8 1, .int .u8 2, .int .u8 4] 5)) (some ⟨w.heap.size + 1, 0, none⟩) [.int .u8 1, .int .u8 2, .int .u8 4] := by
    have h := Lies.alloc_new (w.alloc (.cells #[.int .i64 3, .int .i64 1] 34)) #[.int .u8 1, .int .u8 2, .int .u8 4] 5
    simpa using h
  have hbw : Below w.heap.size w ((w.alloc (.cells #[.int .i64 3, .int .i64 1] 34)).alloc (.cells #[.int .u8 1, .int .u8 2, .int .u8 4] 5)) := ((Below.refl _ _).alloc (Nat.le_refl _) _).alloc (by simp) _
  have hp := (Boxed.mk w 3 1 34)
  obtain ⟨p0, p1⟩ := hp
  replace p0 := cellA p0 (.cells #[.int .u8 1, .int .u8 2, .int .u8 4] 5)
  replace p1 := cellA p1 (.cells #[.int .u8 1, .int .u8 2, .int .u8 4] 5)
  have hm := make31 hM _ (hL.below hbw) _ hl0 7 5 (by omega) sym7
  generalize (w.alloc (.cells #[.int .i64 3, .int .i64 1] 34)).alloc (.cells #[.int .u8 1, .int .u8 2, .int .u8 4] 5) = w1 at *
  refine hm.mono ?_
  rintro e w2 ⟨a2, c2, rfl, hl2, hb2⟩
  replace p0 := cellB p0 hb2
  replace p1 := cellB p1 hb2
  have hb := hbw.trans (hb2.mono hbw.size)
  clear hm hl0 hbw hb2
  have q0 : ∀ o, (w2.alloc o).cell? ⟨w.heap.size, 0, none⟩ = some (.int .i64 3) := fun o => cellA p0 o
  have q1 : ∀ o, (w2.alloc o).cell? ⟨w.heap.size, 1, none⟩ = some (.int .i64 1) := fun o => cellA p1 o
  have hl3 : Lies ((w2.alloc (.cells #[.int .i64 7, .slice a2 1 c2] 38)).alloc (.cells #[.int .u8 1, .int .u8 2, .int .u8 4] 5)) (some ⟨w2.heap.size + 1, 0, none⟩) [.int .u8 1, .int .u8 2, .int .u8 4] := by
    have h := Lies.alloc_new (w2.alloc (.cells #[.int .i64 7, .slice a2 1 c2] 38)) #[.int .u8 1, .int .u8 2, .int .u8 4] 5
    simpa using h
  have hbw : Below w2.heap.size w2 ((w2.alloc (.cells #[.int .i64 7, .slice a2 1 c2] 38)).alloc (.cells #[.int .u8 1, .int .u8 2, .int .u8 4] 5)) := ((Below.refl _ _).alloc (Nat.le_refl _) _).alloc (by simp) _
  obtain ⟨s0, s1⟩ := BoxS.mk w2 7 (.slice a2 1 c2) 38
  replace s0 := cellA s0 (.cells #[.int .u8 1, .int .u8 2, .int .u8 4] 5)
  replace s1 := cellA s1 (.cells #[.int .u8 1, .int .u8 2, .int .u8 4] 5)
  have hm := make31 hM _ (hL.below (hb.trans (hbw.mono hb.size))) _ hl3 2 4 (by omega) sym2
  have HP : Shut (w2.cell? ⟨w.heap.size, 0, none⟩ = some (.int .i64 3) ∧ w2.cell? ⟨w.heap.size, 1, none⟩ = some (.int .i64 1)) := ⟨p0, p1⟩
  clear p0 p1
  go_wp2_with fail
  generalize (w2.alloc (.cells #[.int .i64 7, .slice a2 1 c2] 38)).alloc (.cells #[.int .u8 1, .int .u8 2, .int .u8 4] 5) = w3 at *
  refine hm.mono ?_
  rintro e w4 ⟨a4, c4, rfl, hl4, hb4⟩
  have p0 := cellB (cellB HP.out.1 hbw) hb4
  have p1 := cellB (cellB HP.out.2 hbw) hb4
  replace s0 := cellB s0 hb4
  replace s1 := cellB s1 hb4
  have hl2 := (hl2.below hbw (Nat.le_refl _)).below hb4 (Nat.le_refl _)
  replace hb := (hb.trans (hbw.mono hb.size)).trans (hb4.mono (hb.trans (hbw.mono hb.size)).size)
  have hs3 := hbw.size
  have hs4 := hb4.size
  clear hm hl3 hbw hb4 q0 q1 HP
  obtain ⟨b2, o2, rfl⟩ := hl2.some (k := 0) (by simp)
  go_upto_region 4 with fail
  obtain ⟨t0, t1⟩ := BoxS.mk w4 2 (.slice a4 1 c4) 38
  have bd : Below w4.heap.size w4 (w4.alloc (.cells #[.int .i64 2, .slice a4 1 c4] 38)) := (Below.refl _ _).alloc (Nat.le_refl _) _
  replace p0 := cellB p0 bd
  replace p1 := cellB p1 bd
  replace s0 := cellB s0 bd
  replace s1 := cellB s1 bd
  have hl2 := hl2.below bd (Nat.le_refl _)
  have hl4 := hl4.below bd (Nat.le_refl _)
  replace hb := hb.trans (bd.mono hb.size)
  have d0 : (w4.alloc (.cells #[.int .i64 2, .slice a4 1 c4] 38)).cell? ⟨b2, o2, none⟩ = some (.int .u8 5) := by simpa using hl2.at (k := 0) rfl
  generalize w4.alloc (.cells #[.int .i64 2, .slice a4 1 c4] 38) = w5 at *
  have HA : Shut (w5.cell? ⟨w.heap.size, 0, none⟩ = some (.int .i64 3) ∧ w5.cell? ⟨w.heap.size, 1, none⟩ = some (.int .i64 1) ∧ w5.cell? ⟨w2.heap.size, 0, none⟩ = some (.int .i64 7) ∧ w5.cell? ⟨w2.heap.size, 1, none⟩ = some (.slice (some ⟨b2, o2, none⟩) 1 c2) ∧ w5.cell? ⟨w4.heap.size, 1, none⟩ = some (.slice a4 1 c4)) := ⟨p0, p1, s0, s1, t1⟩
  have u0 : ∀ o, (w5.alloc o).cell? ⟨w2.heap.size, 1, none⟩ = some (.slice (some ⟨b2, o2, none⟩) 1 c2) := fun o => cellA s1 o
  have u1 : ∀ o, (w5.alloc o).cell? ⟨b2, o2, none⟩ = some (.int .u8 5) := fun o => cellA d0 o
  clear p0 p1 s1 d0 t0 t1 bd
  go_wp2_with fail
  have hc := containsB_any (some ⟨w5.heap.size, 0, none⟩) 3 [3, 5, 6] 5 (w5.alloc (.cells #[.int .u8 3, .int .u8 5, .int .u8 6] 5)) (by unfold maxLen; simp) (Lies.alloc_new w5 #[.int .u8 3, .int .u8 5, .int .u8 6] 5)
  refine hc.mono ?_
  rintro e w6 ⟨rfl, rfl⟩
  have bd : Below w5.heap.size w5 (w5.alloc (.cells #[.int .u8 3, .int .u8 5, .int .u8 6] 5)) := (Below.refl _ _).alloc (Nat.le_refl _) _
  obtain ⟨p0, p1, s0', s1, t1⟩ := HA.out
  replace p0 := cellB p0 bd
  replace p1 := cellB p1 bd
  replace s0 := cellB s0' bd
  replace s1 := cellB s1 bd
  replace t1 := cellB t1 bd
  have hl4 := hl4.below bd (Nat.le_refl _)
  replace hb := hb.trans (bd.mono hb.size)
  clear hc u0 u1 HA bd s0'
  generalize w5.alloc (.cells #[.int .u8 3, .int .u8 5, .int .u8 6] 5) = w6 at *
  have HB : Shut (w6.cell? ⟨w.heap.size, 0, none⟩ = some (.int .i64 3) ∧ w6.cell? ⟨w.heap.size, 1, none⟩ = some (.int .i64 1) ∧ w6.cell? ⟨w2.heap.size, 0, none⟩ = some (.int .i64 7) ∧ w6.cell? ⟨w2.heap.size, 1, none⟩ = some (.slice (some ⟨b2, o2, none⟩) 1 c2)) := ⟨p0, p1, s0, s1⟩
  clear p0 p1 s0 s1
  go_wp2_with fail
  have hE := equalBlock (w := w6.alloc (.cells #[.int .u8 4] 5)) a4 (some ⟨w6.heap.size, 0, none⟩) c4 1 [4] [4] (by unfold maxLen; simp) (by unfold maxLen; simp) (hl4.alloc _) (Lies.alloc_new w6 #[.int .u8 4] 5)
  refine hE.mono ?_
  rintro e w7 ⟨rfl, nq, rfl⟩
  have bd : Below w6.heap.size w6 ((w6.alloc (.cells #[.int .u8 4] 5)).drewN nq) := ((Below.refl _ _).alloc (Nat.le_refl _) _).trans (bdn _ _ _)
  obtain ⟨p0, p1, s0, s1⟩ := HB.out
  replace p0 := cellB p0 bd
  replace p1 := cellB p1 bd
  replace s0 := cellB s0 bd
  replace s1 := cellB s1 bd
  replace hb := hb.trans (bd.mono hb.size)
  clear hE HB bd hl4 t1
  generalize (w6.alloc (.cells #[.int .u8 4] 5)).drewN nq = w7 at *
  go_wp2_with fail
  refine (hC 3 1 7 (some ⟨b2, o2, none⟩) 1 c2 w7 ⟨by omega, by omega⟩ ⟨by omega, by omega⟩ (by unfold maxLen; omega)).mono ?_
  rintro e w8 ⟨rfl, hb8⟩
  have e0 : chkS 3 1 7 1 = 0 := by
    rw [chkS, if_neg (by rw [chkP_good good31]; simp), if_neg (by omega), if_neg (by simp)]
  rw [e0]
  replace hb := hb.trans (hb8.mono hb.size)
  clear hb8 p0 p1 s0 s1 e0
  go_wp2
  go_ret
  exact ⟨rfl, hb⟩

end Go.Proofs.YtdhholcbmeoagabDoor
