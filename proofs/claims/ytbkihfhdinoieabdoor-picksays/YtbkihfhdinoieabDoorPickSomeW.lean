/-
  The walk of PickSome.
-/
import Derived.Test.YtbkihfhdinoieabDoorPick3
namespace Go.Proofs.YtbkihfhdinoieabDoor
open Go.RowKit
set_option linter.unusedVariables false
set_option linter.unusedSimpArgs false

theorem not_out {id b : Int} (h : ¬ OutOf id b) : ∃ i n : Nat, id = i ∧ b = n ∧ i ≤ 9999 ∧ 1 ≤ n ∧ n ≤ 24 := by
  unfold OutOf at h
  exact ⟨id.toNat, b.toNat, by omega, by omega, by omega, by omega, by omega⟩

theorem bools_count {b : Nat} {l : List Nat} (h : ∀ k ∈ l, k < b) (hp : 0 < l.length) : 0 < (boolsOf b l).count true := by
  obtain ⟨k, hk⟩ := List.exists_mem_of_length_pos hp
  rw [List.count_pos_iff]
  exact List.mem_map.2 ⟨k, by simpa using h k hk, by simp [hk]⟩

theorem range_count (b i : Nat) : ((List.range b).map fun k => decide (k = i)).count true = if i < b then 1 else 0 := by
  induction b with
  | zero => simp
  | succ b ih =>
    rw [List.range_succ, List.map_append, List.count_append, ih]
    by_cases h : b = i
    · subst h; simp
    · rcases Nat.lt_or_gt_of_ne h with h1 | h1
      · simp [h, show ¬ i < b by omega, show ¬ i < b + 1 by omega]
      · simp [h, show i < b by omega, show i < b + 1 by omega]

theorem bools_one {b i : Nat} (h : i < b) : (boolsOf b [i]).count true = 1 := by
  have := range_count b i
  rw [if_pos h] at this
  simpa [boolsOf] using this

theorem PickSome_bad (id many : Int) (w : World) (hL : Laid w) (h : OutOf id many) :
    Calls Tryd.prog 4 #[.int .i64 id, .int .i64 many] w fun e w' => e = .returned (.bool true) ∧ Below w.heap.size w w' := by
  go_enter Tryd.func4, Tryd.ntmps4
  go_wp2_with fail
  refine (of_bad id many _ h).mono ?_
  rintro e w1 ⟨rfl, rfl⟩
  go_wp2_with fail
  refine (of_bad id many _ h).mono ?_
  rintro e w1 ⟨rfl, rfl⟩
  go_wp2_with fail
  refine (picked_any _ hL).mono ?_
  rintro e w1 ⟨rfl, hb⟩
  have hL1 := hL.below hb
  clear hL
  go_wp2_with fail
  refine (picked_any _ hL1).mono ?_
  rintro e w2 ⟨rfl, hb2⟩
  have hb := hb.trans (hb2.mono hb.size)
  clear hb2 hL1
  go_wp2
  go_ret
  exact ⟨rfl, hb⟩

set_option maxHeartbeats 400000 in
theorem PickSome_good (i b : Nat) (w : World) (hL : Laid w) (hi : i ≤ 9999) (h1 : 1 ≤ b) (hb24 : b ≤ 24) :
    Calls Tryd.prog 4 #[.int .i64 i, .int .i64 b] w fun e w' => e = .returned (.bool true) ∧ Below w.heap.size w w' := by
  obtain ⟨xs, hxs⟩ : ∃ xs, boolsOf b (chosen b i) = xs := ⟨_, rfl⟩
  have hlen : xs.length = b := by rw [← hxs, boolsOf_length]
  have HP : Shut (0 < xs.count true) := ⟨by rw [← hxs]; exact bools_count (chosen_lt h1 hb24) (chosen_pos h1 hb24)⟩
  have HI : Shut (∀ (h : i < b), xs.count true = 1 ∧ xs[i]? = some true) := ⟨fun h => by
    rw [← hxs, chosen_low h]
    exact ⟨bools_one h, by simp [boolsOf, h]⟩⟩
  go_enter Tryd.func4, Tryd.ntmps4
  go_wp2_with fail
  refine (of_any i b w hi h1 hb24 hL).mono ?_
  rintro e w1 ⟨g1, rfl, hg1, hr1, hb1⟩
  have hl1 := row_bools hr1
  rw [hxs] at hl1
  have hL1 := hL.below hb1
  clear hr1 hg1 hL
  go_wp2_with fail
  refine (of_any i b w1 hi h1 hb24 hL1).mono ?_
  rintro e w2 ⟨g2, rfl, hg2, hr2, hb2⟩
  have hl2 := row_bools hr2
  rw [hxs] at hl2
  have hl1 := hl1.below hb2 (Nat.le_refl _)
  have hL2 := hL1.below hb2
  have hb := hb1.trans (hb2.mono hb1.size)
  clear hr2 hb1 hb2 hL1 hg2 hxs
  go_wp2_with fail
  refine (picked_any _ hL2).mono ?_
  rintro e w3 ⟨rfl, hb3⟩
  have hl1 := hl1.below hb3 (Nat.le_refl _)
  have hl2 := hl2.below hb3 (Nat.le_refl _)
  have hb := hb.trans (hb3.mono hb.size)
  clear hb3 hL2
  go_wp2
  go_loopw [9, 38] (fun n i wr => ∃ k : Nat, k ≤ b ∧ i = .int .i64 k ∧ n = .int .i64 ((xs.take k).count true : Nat) ∧ wr = w3) (fun _ i _ => b - (intOf i).toNat)
  case atStart => exact ⟨0, Nat.zero_le _, rfl, rfl, rfl⟩
  case round =>
    obtain ⟨k, hk, rfl, rfl, rfl⟩ := hrel
    by_cases hlt : k < b
    · have c1 := hl1.at (k := k) (u := .bool (xs[k]'(by omega))) (by simp [show k < xs.length by omega])
      simp only [Nat.zero_add] at c1
      have HC := Shut.mk (count_next (xs := xs) (k := k) (by omega))
      have hcb : (xs.take k).count true ≤ k := by
        have := List.count_le_length (a := true) (l := xs.take k)
        simp at this
        omega
      generalize (xs.take k).count true = n at *
      cases hx : xs[k]'(by omega)
      · rw [hx] at c1 HC
        clear hx
        go_wp2
        exact ⟨⟨k + 1, by omega, by go_num, by rw [HC.out]; rfl, trivial⟩, by simp [intOf]; omega⟩
      · rw [hx] at c1 HC
        clear hx
        go_wp2
        exact ⟨⟨k + 1, by omega, by go_num, by rw [HC.out]; simp, trivial⟩, by simp [intOf]; omega⟩
    · obtain rfl : k = b := by omega
      rw [List.take_of_length_le (by omega)]
      have hn1 : (0 : Int) < (xs.count true : Nat) := by have := HP.out; omega
      have hE := equalBools (w := wr) (some ⟨g1, 0, none⟩) (some ⟨g2, 0, none⟩) k k xs xs (by unfold maxLen; omega) (by unfold maxLen; omega) hl1 hl2
      rw [hlen] at hE
      have hcE := HI.out
      clear hlt hk HP
      by_cases hib : i < k
      · obtain ⟨q1, q2⟩ := hcE hib
        have c1 := hl1.at (k := i) (u := .bool true) (by simp [q2])
        simp only [Nat.zero_add] at c1
        have hn2 : ((xs.count true : Nat) : Int) = 1 := by omega
        rw [hn2]
        clear hcE HI q1 q2 hl1 hl2
        go_wp2_with fail
        refine hE.mono ?_
        rintro e w4 ⟨rfl, nq, rfl⟩
        have hb := hb.trans (bdn wr nq w.heap.size)
        have c1 : (wr.drewN nq).cell? ⟨g1, i, none⟩ = some (.bool true) := by simpa using c1
        clear hE
        generalize (wr.drewN nq) = w4 at *
        go_wp2
        go_ret
        exact ⟨rfl, hb⟩
      · have hib3 : k ≤ i := by omega
        have hn3 : 0 < xs.count true := by omega
        clear hcE HI hib hn1 hl1 hl2
        generalize xs.count true = n at *
        go_wp2_with fail
        refine hE.mono ?_
        rintro e w4 ⟨rfl, nq, rfl⟩
        have hb := hb.trans (bdn wr nq w.heap.size)
        clear hE
        generalize (wr.drewN nq) = w4 at *
        go_wp2
        go_ret
        exact ⟨rfl, hb⟩

theorem W_pickSome (id : Int) (many : Int) (w : World) (hL : Laid w) :
    Calls Tryd.prog 4 #[.int .i64 id, .int .i64 many] w fun e w' => e = .returned (.bool true) ∧ Below w.heap.size w w' := by
  by_cases h : OutOf id many
  · exact PickSome_bad id many w hL h
  · obtain ⟨i, b, rfl, rfl, h1, h2, h3⟩ := not_out h
    exact PickSome_good i b w hL h1 h2 h3

end Go.Proofs.YtbkihfhdinoieabDoor
