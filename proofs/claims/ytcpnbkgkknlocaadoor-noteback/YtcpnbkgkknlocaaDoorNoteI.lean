/-
  Chapter 7: the law's closed fact: one record is printed, and read again.
-/
import Derived.Test.YtcpnbkgkknlocaaDoorNoteH
import Derived.Test.YtcpnbkgkknlocaaDoorNoteB
namespace Go.Proofs.YtcpnbkgkknlocaaDoor
open Go.RowKit
set_option linter.unusedVariables false
set_option linter.unusedSimpArgs false

def hd0 : Hd := ⟨1, 0, 2, 50, 2, 1⟩
def rec0 : Rc := ⟨2, 0, 0, 0, hd0, 3, [10], []⟩
def text0 : List UInt8 := [50, 32, 48, 32, 48, 32, 48, 32, 49, 32, 48, 32, 50, 32, 53, 48, 32, 50, 32, 49, 32, 51, 32, 45, 48, 97, 32, 45]

theorem rec0_ints : rec0.ints := by
  refine ⟨?_, ?_, ?_, ?_, ⟨?_, ?_, ?_, ?_, ?_, ?_⟩, ?_⟩ <;> (constructor <;> decide)

theorem rec0_code : rec0.code = 0 := by decide

theorem rec0_text : rec0.text = text0 := by
  simp [Rc.text, Rc.words, Rc.nums, rec0, hd0, text0, Lib.join, List.intercalate, List.intersperse, Lib.itoa, Lib.decDigits, hexW, hexL, dig, digsL]

theorem hd0_code : hdCode hd0 = 0 := by decide

theorem lawHead_any (w : World) : Calls Tryd.prog 22 #[] w fun e w' => e = .returned (.agg #[.int .i64 1, .int .i64 0, .int .i64 2, .int .i64 50, .int .i64 2, .int .i64 1]) ∧ Below w.heap.size w w' := by
  go_enter Tryd.func22, Tryd.ntmps22
  go_wp2
  refine bodyPost_ret (v := .agg #[.int .i64 1, .int .i64 0, .int .i64 2, .int .i64 50, .int .i64 2, .int .i64 1]) (by simp [results, Tryd.results22, go_sem]) rfl ?_
  exact ⟨rfl, (Below.refl _ _).alloc (Nat.le_refl _) _⟩

set_option maxHeartbeats 1000000 in
set_option maxRecDepth 8000 in
theorem lined_any (w : World) (hL : LaidN w) : Calls Tryd.prog 8 #[] w fun e w' => e = .returned (.bool true) ∧ Below w.heap.size w w' := by
  have hpr : rec0.printed = text0 := by rw [Rc.printed, if_pos rec0_code, rec0_text]
  have hrd : readL text0 = some rec0 := by rw [← rec0_text]; exact read_text rec0_ints
  have hpc : pCode text0 = 0 := by rw [pCode, if_neg (by decide), hrd]; exact rec0_code
  go_enter Tryd.func8, Tryd.ntmps8
  go_wp2_with fail
  refine (lawHead_any w).mono ?_
  rintro e W0 ⟨rfl, hb0⟩
  go_upto_region 2 with fail
  generalize hW2 : (W0.alloc (.cells #[.int .u8 10] 5)).alloc (.cells #[.int .i64 2, .int .i64 0, .int .i64 0, .int .i64 0, .int .i64 1, .int .i64 0, .int .i64 2, .int .i64 50, .int .i64 2, .int .i64 1, .int .i64 3, .slice (some ⟨W0.heap.size, 0, none⟩) 1 1, .slice none 0 0] 31) = W2
  have hb2 : Below W0.heap.size W0 W2 := by rw [← hW2]; exact ((Below.refl _ _).alloc (Nat.le_refl _) _).alloc (by simp) _
  have hg2 : W2.heap[W0.heap.size + 1]? = some (.cells #[.int .i64 2, .int .i64 0, .int .i64 0, .int .i64 0, .int .i64 1, .int .i64 0, .int .i64 2, .int .i64 50, .int .i64 2, .int .i64 1, .int .i64 3, .slice (some ⟨W0.heap.size, 0, none⟩) 1 1, .slice none 0 0] 31 (0, 0)) := by rw [← hW2, heap_alloc_eq, if_pos (by simp)]
  have hd2 : W2.heap[W0.heap.size]? = some (.cells #[.int .u8 10] 5 (0, 0)) := by rw [← hW2, heap_alloc_eq, if_neg (by simp), heap_alloc_eq, if_pos rfl]
  have hld : Lies W2 (some ⟨W0.heap.size, 0, none⟩) (bs [10]) := Lies.mk fun k hk => by
    match k, hk with
    | 0, _ => exact cellB hd2 0 _ rfl
  have hF2 := hb0.trans (hb2.mono hb0.size)
  have hL2 := hL.below hF2
  have hP := print_any rec0 (some ⟨W0.heap.size, 0, none⟩) 1 none 0 W2 rec0_ints (by decide) hld (Lies.nil _ _) hL2
  rw [hpr, rec0_code] at hP
  simp only [rcV, rec0, hd0, List.length_cons, List.length_nil, Nat.zero_add] at hP
  have q0 : W2.cell? ⟨W0.heap.size + 1, 0, none⟩ = some (.int .i64 2) := cellB hg2 0 _ rfl
  have q1 : W2.cell? ⟨W0.heap.size + 1, 1, none⟩ = some (.int .i64 0) := cellB hg2 1 _ rfl
  have q2 : W2.cell? ⟨W0.heap.size + 1, 2, none⟩ = some (.int .i64 0) := cellB hg2 2 _ rfl
  have q3 : W2.cell? ⟨W0.heap.size + 1, 3, none⟩ = some (.int .i64 0) := cellB hg2 3 _ rfl
  have q4 : W2.cell? ⟨W0.heap.size + 1, 4, none⟩ = some (.int .i64 1) := cellB hg2 4 _ rfl
  have q5 : W2.cell? ⟨W0.heap.size + 1, 5, none⟩ = some (.int .i64 0) := cellB hg2 5 _ rfl
  have q6 : W2.cell? ⟨W0.heap.size + 1, 6, none⟩ = some (.int .i64 2) := cellB hg2 6 _ rfl
  have q7 : W2.cell? ⟨W0.heap.size + 1, 7, none⟩ = some (.int .i64 50) := cellB hg2 7 _ rfl
  have q8 : W2.cell? ⟨W0.heap.size + 1, 8, none⟩ = some (.int .i64 2) := cellB hg2 8 _ rfl
  have q9 : W2.cell? ⟨W0.heap.size + 1, 9, none⟩ = some (.int .i64 1) := cellB hg2 9 _ rfl
  have q10 : W2.cell? ⟨W0.heap.size + 1, 10, none⟩ = some (.int .i64 3) := cellB hg2 10 _ rfl
  have q11 : W2.cell? ⟨W0.heap.size + 1, 11, none⟩ = some (.slice (some ⟨W0.heap.size, 0, none⟩) 1 1) := cellB hg2 11 _ rfl
  have q12 : W2.cell? ⟨W0.heap.size + 1, 12, none⟩ = some (.slice none 0 0) := cellB hg2 12 _ rfl
  clear hb0 hb2 hd2 hL
  go_wp2_with fail
  refine hP.mono ?_
  rintro e W3 ⟨rfl, hb3⟩
  have hF3 := hF2.trans (hb3.mono hF2.size)
  have hg3 := blkB hg2 hb3
  replace hld := hld.below hb3 (Nat.le_refl _)
  have hQ := parse_any ⟨text0.toArray⟩ W3 (hL2.below hb3)
  clear hP hb3 hF2 hg2 hW2 hL2 q0 q1 q2 q3 q4 q5 q6 q7 q8 q9 q10 q11 q12
  go_wp2_with fail
  refine hQ.mono ?_
  rintro e W4 ⟨hb4, hR⟩
  rcases hR with ⟨hne, _⟩ | ⟨_, r, da, dc, ca, cc, hr1, _, rfl, hl1, hl2⟩
  · exact absurd hpc hne
  obtain rfl : r = rec0 := by
    have : readL text0 = some r := hr1
    rw [hrd] at this
    exact (Option.some.inj this).symm
  have hF4 := hF3.trans (hb4.mono hF3.size)
  have hg4 := blkB hg3 hb4
  replace hld := hld.below hb4 (Nat.le_refl _)
  simp only [rcV, rec0, hd0, List.length_cons, List.length_nil, Nat.zero_add] at hl1 hl2 ⊢
  go_upto_region 4 with fail
  generalize hW5 : W4.alloc (.cells #[.int .i64 2, .int .i64 0, .int .i64 0, .int .i64 0, .int .i64 1, .int .i64 0, .int .i64 2, .int .i64 50, .int .i64 2, .int .i64 1, .int .i64 3, .slice da 1 dc, .slice ca 0 cc] 31) = W5
  have hb5 : Below W4.heap.size W4 W5 := by rw [← hW5]; exact (Below.refl _ _).alloc (Nat.le_refl _) _
  have hq5 : W5.heap[W4.heap.size]? = some (.cells #[.int .i64 2, .int .i64 0, .int .i64 0, .int .i64 0, .int .i64 1, .int .i64 0, .int .i64 2, .int .i64 50, .int .i64 2, .int .i64 1, .int .i64 3, .slice da 1 dc, .slice ca 0 cc] 31 (0, 0)) := by rw [← hW5, heap_alloc_eq, if_pos rfl]
  have hg5 := blkB hg4 hb5
  have hF5 := hF4.trans (hb5.mono hF4.size)
  have hS := same_any rec0 rec0 (some ⟨W0.heap.size, 0, none⟩) 1 none 0 da dc ca cc W5 (hld.below hb5 (Nat.le_refl _)) (Lies.nil _ _) (hl1.below hb5 (Nat.le_refl _)) (hl2.below hb5 (Nat.le_refl _)) (by decide) (by decide) (by decide) (by decide)
  rw [decide_eq_true (rfl : rec0 = rec0)] at hS
  simp only [rcV, rec0, hd0, List.length_cons, List.length_nil, Nat.zero_add] at hS
  have q0 : W5.cell? ⟨W0.heap.size + 1, 0, none⟩ = some (.int .i64 2) := cellB hg5 0 _ rfl
  have q1 : W5.cell? ⟨W0.heap.size + 1, 1, none⟩ = some (.int .i64 0) := cellB hg5 1 _ rfl
  have q2 : W5.cell? ⟨W0.heap.size + 1, 2, none⟩ = some (.int .i64 0) := cellB hg5 2 _ rfl
  have q3 : W5.cell? ⟨W0.heap.size + 1, 3, none⟩ = some (.int .i64 0) := cellB hg5 3 _ rfl
  have q4 : W5.cell? ⟨W0.heap.size + 1, 4, none⟩ = some (.int .i64 1) := cellB hg5 4 _ rfl
  have q5 : W5.cell? ⟨W0.heap.size + 1, 5, none⟩ = some (.int .i64 0) := cellB hg5 5 _ rfl
  have q6 : W5.cell? ⟨W0.heap.size + 1, 6, none⟩ = some (.int .i64 2) := cellB hg5 6 _ rfl
  have q7 : W5.cell? ⟨W0.heap.size + 1, 7, none⟩ = some (.int .i64 50) := cellB hg5 7 _ rfl
  have q8 : W5.cell? ⟨W0.heap.size + 1, 8, none⟩ = some (.int .i64 2) := cellB hg5 8 _ rfl
  have q9 : W5.cell? ⟨W0.heap.size + 1, 9, none⟩ = some (.int .i64 1) := cellB hg5 9 _ rfl
  have q10 : W5.cell? ⟨W0.heap.size + 1, 10, none⟩ = some (.int .i64 3) := cellB hg5 10 _ rfl
  have q11 : W5.cell? ⟨W0.heap.size + 1, 11, none⟩ = some (.slice (some ⟨W0.heap.size, 0, none⟩) 1 1) := cellB hg5 11 _ rfl
  have q12 : W5.cell? ⟨W0.heap.size + 1, 12, none⟩ = some (.slice none 0 0) := cellB hg5 12 _ rfl
  have z0 : W5.cell? ⟨W4.heap.size, 0, none⟩ = some (.int .i64 2) := cellB hq5 0 _ rfl
  have z1 : W5.cell? ⟨W4.heap.size, 1, none⟩ = some (.int .i64 0) := cellB hq5 1 _ rfl
  have z2 : W5.cell? ⟨W4.heap.size, 2, none⟩ = some (.int .i64 0) := cellB hq5 2 _ rfl
  have z3 : W5.cell? ⟨W4.heap.size, 3, none⟩ = some (.int .i64 0) := cellB hq5 3 _ rfl
  have z4 : W5.cell? ⟨W4.heap.size, 4, none⟩ = some (.int .i64 1) := cellB hq5 4 _ rfl
  have z5 : W5.cell? ⟨W4.heap.size, 5, none⟩ = some (.int .i64 0) := cellB hq5 5 _ rfl
  have z6 : W5.cell? ⟨W4.heap.size, 6, none⟩ = some (.int .i64 2) := cellB hq5 6 _ rfl
  have z7 : W5.cell? ⟨W4.heap.size, 7, none⟩ = some (.int .i64 50) := cellB hq5 7 _ rfl
  have z8 : W5.cell? ⟨W4.heap.size, 8, none⟩ = some (.int .i64 2) := cellB hq5 8 _ rfl
  have z9 : W5.cell? ⟨W4.heap.size, 9, none⟩ = some (.int .i64 1) := cellB hq5 9 _ rfl
  have z10 : W5.cell? ⟨W4.heap.size, 10, none⟩ = some (.int .i64 3) := cellB hq5 10 _ rfl
  have z11 : W5.cell? ⟨W4.heap.size, 11, none⟩ = some (.slice da 1 dc) := cellB hq5 11 _ rfl
  have z12 : W5.cell? ⟨W4.heap.size, 12, none⟩ = some (.slice ca 0 cc) := cellB hq5 12 _ rfl
  have hcmp : (⟨text0.toArray⟩ : ByteArray).toList = [50, 32, 48, 32, 48, 32, 48, 32, 49, 32, 48, 32, 50, 32, 53, 48, 32, 50, 32, 49, 32, 51, 32, 45, 48, 97, 32, 45] := by rw [Lib.toList_data]; rfl
  generalize (⟨text0.toArray⟩ : ByteArray) = TB at hcmp ⊢
  clear hb4 hb5 hg3 hg4 hF3 hF4 hld hl1 hl2 hQ hpc hrd hpr
  go_wp2_with fail
  refine hS.mono ?_
  rintro e W6 ⟨rfl, hb6⟩
  have hF6 := hF5.trans (hb6.mono hF5.size)
  clear hS hb6
  go_wp2_with fail
  refine (lawHead_any W6).mono ?_
  rintro e W7 ⟨rfl, hb7⟩
  have hF7 := hF6.trans (hb7.mono hF6.size)
  have hH := head_any hd0 W7 (by refine ⟨?_, ?_, ?_, ?_, ?_, ?_⟩ <;> (constructor <;> decide))
  rw [hd0_code] at hH
  simp only [Hd.val, hd0] at hH
  clear hb7
  go_wp2_with fail
  refine hH.mono ?_
  rintro e W8 ⟨rfl, hb8⟩
  have hF8 := hF7.trans (hb8.mono hF7.size)
  clear hH hb8
  go_wp2
  go_ret
  exact ⟨rfl, hF8⟩

end Go.Proofs.YtcpnbkgkknlocaaDoor
