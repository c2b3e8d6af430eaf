/-
  'picked', the closed fact of chapter 3's statements: its contract.
-/
import Derived.Test.YtdhholcbmeoagabDoorPick2
import Derived.Test.YtdhholcbmeoagabDoorEqB
namespace Go.Proofs.YtdhholcbmeoagabDoor
open Go.RowKit
set_option linter.unusedVariables false
set_option linter.unusedSimpArgs false

/-- the answer's bools -/
def boolsOf (b : Nat) (l : List Nat) : List Bool := (List.range b).map fun k => decide (k ∈ l)

theorem boolsOf_length (b : Nat) (l : List Nat) : (boolsOf b l).length = b := by simp [boolsOf]

theorem row_bools {w : World} {g b : Nat} {t : TypeId} {l : List Nat} (h : w.rowIs g t b (inAt l)) : Lies w (some ⟨g, 0, none⟩) ((boolsOf b l).map Value.bool) := by
  have := rowIs_lies h
  rw [boolsOf, List.map_map]
  exact this

theorem nx7 : nx 7 = 20108 := by decide

theorem chosen_7 : chosen 3 7 = [2, 0] := by
  have h : (coll 3 (nx 7) 3).length = many 3 (nx 7) := by rw [nx7]; decide
  rw [chosen_high (by decide) h, nx7]
  decide

theorem bools_7 : boolsOf 3 (chosen 3 7) = [true, false, true] := by rw [chosen_7]; decide
theorem bools_1 : boolsOf 3 (chosen 3 1) = [false, true, false] := by rw [chosen_low (by decide)]; decide

/-- so many of the first are true -/
theorem count_next {xs : List Bool} {k : Nat} (h : k < xs.length) : (xs.take (k + 1)).count true = (xs.take k).count true + if xs[k] then 1 else 0 := by
  rw [List.take_succ_eq_append_getElem h, List.count_append]
  cases xs[k] <;> simp

set_option maxHeartbeats 400000 in
theorem picked_any (w : World) (hL : Laid w) : Calls Tryd.prog 9 #[] w fun e w' => e = .returned (.bool true) ∧ Below w.heap.size w w' := by
  go_enter Tryd.func9, Tryd.ntmps9
  go_wp2_with fail
  refine (of_any 1 3 w (by omega) (by omega) (by omega) hL).mono ?_
  rintro e w1 ⟨g1, rfl, hg1, hr1, hb1⟩
  have hl1 := row_bools hr1
  rw [bools_1] at hl1
  clear hr1
  go_wp2_with fail
  refine (of_any 7 3 w1 (by omega) (by omega) (by omega) (hL.below hb1)).mono ?_
  rintro e w2 ⟨g2, rfl, hg2, hr2, hb2⟩
  have hl2 := row_bools hr2
  rw [bools_7] at hl2
  have hl1 := hl1.below hb2 (Nat.le_refl _)
  have hb := hb1.trans (hb2.mono hb1.size)
  clear hr2 hb1 hb2 hL hg1 hg2
  go_wp2
  obtain ⟨xs, hxs⟩ : ∃ xs, xs = [true, false, true] := ⟨_, rfl⟩
  rw [← hxs] at hl2
  have HX : Shut (xs.count true = 2) := ⟨by rw [hxs]; decide⟩
  have h3 : xs.length = 3 := by rw [hxs]; rfl
  clear hxs
  go_loopw [5, 18] (fun n i wr => ∃ k : Nat, k ≤ 3 ∧ i = .int .i64 k ∧ n = .int .i64 ((xs.take k).count true : Nat) ∧ wr = w2) (fun _ i _ => 3 - (intOf i).toNat)
  case atStart => exact ⟨0, Nat.zero_le _, rfl, rfl, rfl⟩
  case round =>
    obtain ⟨k, hk, rfl, rfl, rfl⟩ := hrel
    by_cases hlt : k < 3
    · have c1 := hl2.at (k := k) (u := .bool (xs[k]'(by omega))) (by simp [show k < xs.length by omega])
      simp only [Nat.zero_add] at c1
      have HC := Shut.mk (count_next (xs := xs) (k := k) (by omega))
      have hcb : (xs.take k).count true ≤ k := by
        have := List.count_le_length (a := true) (l := xs.take k)
        simp at this
        omega
      generalize (xs.take k).count true = n at *
      cases hx : xs[k]'(by omega)
      · rw [hx] at c1 HC
        clear hx
        go_wp2
        exact ⟨⟨k + 1, by omega, by go_num, by rw [HC.out]; rfl, trivial⟩, by simp [intOf]; omega⟩
      · rw [hx] at c1 HC
        clear hx
        go_wp2
        exact ⟨⟨k + 1, by omega, by go_num, by rw [HC.out]; simp, trivial⟩, by simp [intOf]; omega⟩
    · obtain rfl : k = 3 := by omega
      rw [List.take_of_length_le (by omega), HX.out]
      clear hlt hk
      go_wp2_with fail
      have hE := equalBools (w := wr.alloc (.cells #[.bool false, .bool true, .bool false] 4)) (some ⟨g1, 0, none⟩) (some ⟨wr.heap.size, 0, none⟩) 3 3 [false, true, false] [false, true, false] (by decide) (by decide) (hl1.alloc _) (Lies.alloc_new wr #[.bool false, .bool true, .bool false] 4)
      refine hE.mono ?_
      rintro e w3 ⟨rfl, nq, rfl⟩
      have hb3 := (hb.alloc hb.size (.cells #[.bool false, .bool true, .bool false] 4)).trans (bdn _ nq w.heap.size)
      clear hE hl1 hl2 hb
      generalize (World.drewN _ nq) = w3 at *
      go_wp2
      go_ret
      exact ⟨rfl, hb3⟩

end Go.Proofs.YtdhholcbmeoagabDoor
