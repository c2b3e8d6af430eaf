/-
  slices.EqualFunc at blocks, with a function that holds two blocks against each other: its contract.
-/
import Derived.Test.YtclbmfjincekfabSum2
import Derived.Test.YtclbmfjincekfabEq
namespace Go.Proofs.Ytclbmfjincekfab
open Go.RowKit
set_option linter.unusedVariables false
set_option linter.unusedSimpArgs false

theorem take_blkF {xl yl : List Blk} {k : Nat} (h : Hid ((xl.map Blk.l).take k = (yl.map Blk.l).take k)) (h1 : k < xl.length) (h2 : k < yl.length) (e : Hid (xl[k].l = yl[k].l)) : (xl.map Blk.l).take (k + 1) = (yl.map Blk.l).take (k + 1) := by
  rw [List.take_succ_eq_append_getElem (by simpa using h1), List.take_succ_eq_append_getElem (by simpa using h2), h.out]
  simp [e.out]

set_option maxHeartbeats 400000 in
theorem equalFn_any (f : Nat) (eg : ∀ args w, (callFunc f args).run Try.prog w = .ok (.enter f args) w) (hf : ∀ (a b : Option Addr) (ca cb : Nat) (xs ys : List UInt8) (w : World) (hx : xs.length ≤ maxLen) (hy : ys.length ≤ maxLen) (ha : Lies w a (bs xs)) (hb : Lies w b (bs ys)),
      Calls Try.prog f #[.slice a xs.length ca, .slice b ys.length cb] w fun e w' => e = .returned (.bool (decide (xs = ys))) ∧ ∃ n, w' = w.drewN n)
    (a b : Option Addr) (ca cb : Nat) (xl yl : List Blk) (w : World) (hx : xl.length ≤ maxLen) (hy : yl.length ≤ maxLen) (ha : Lies w a (xl.map Blk.val)) (hb : Lies w b (yl.map Blk.val)) (hxa : AllIn w xl) (hya : AllIn w yl) :
    Calls Try.prog 14 #[.slice a xl.length ca, .slice b yl.length cb, .func (.func f) #[] #[]] w fun e w' => e = .returned (.bool (decide (xl.map Blk.l = yl.map Blk.l))) ∧ ∃ n, w' = w.drewN n := by
  have HF := Hid.mk' hf
  clear hf
  unfold maxLen at hx hy
  by_cases hl : xl.length = yl.length
  · have hne : ((xl.length : Int) != (yl.length : Int)) = false := by simp [hl]
    have HL : Hid (xl.length = yl.length) := hl
    have hle : xl.length ≤ yl.length := by omega
    clear hl
    go_enter Try.func14, Try.ntmps14
    go_wp2
    go_loopw [17] (fun i wr => ∃ k nq : Nat, k ≤ xl.length ∧ i = .int .i64 k ∧ wr = w.drewN nq ∧ Hid ((xl.map Blk.l).take k = (yl.map Blk.l).take k)) (fun i _ => xl.length - (intOf i).toNat)
    case atStart => exact ⟨0, 0, Nat.zero_le _, rfl, rfl, rfl⟩
    case round =>
      obtain ⟨k, nq, hk, rfl, rfl, HE⟩ := hrel
      by_cases hlt : k < xl.length
      · obtain ⟨b1, o1, rfl⟩ := ha.some (k := k) (by simpa using hlt)
        obtain ⟨b2, o2, rfl⟩ := hb.some (k := k) (by simp; omega)
        have hlt2 : k < yl.length := by omega
        have h1 : w.cell? ⟨b1, o1 + k, none⟩ = some (.slice xl[k].a xl[k].l.length xl[k].cap) := ha.at (by simp [hlt, Blk.val])
        have h2 : w.cell? ⟨b2, o2 + k, none⟩ = some (.slice yl[k].a yl[k].l.length yl[k].cap) := hb.at (by simp [hlt2, Blk.val])
        have hkx := hxa xl[k] (by simp)
        have hky := hya yl[k] (by simp)
        clear ha hb
        go_wp2_with fail
        refine (HF.out _ _ _ _ xl[k].l yl[k].l _ hkx.2 hky.2 (hkx.1.drewN _) (hky.1.drewN _)).mono ?_
        rintro e w1 ⟨rfl, n1, rfl⟩
        clear hkx hky
        by_cases hd : xl[k].l = yl[k].l
        · have HD : Hid (xl[k].l = yl[k].l) := hd
          rw [decide_eq_true hd]
          clear hd
          go_wp2
          go_roundw
          case rel => exact ⟨k + 1, _, by omega, by go_num, rfl, take_blkF HE hlt hlt2 HD⟩
          case measure => simp [intOf]; omega
        · have HD : Hid (¬ xl.map Blk.l = yl.map Blk.l) := fun e => by
            have h1 : (xl.map Blk.l)[k]? = (yl.map Blk.l)[k]? := by rw [e]
            simp [hlt, hlt2] at h1
            exact hd h1
          rw [decide_eq_false hd]
          clear hd
          go_wp2
          go_ret
          exact ⟨retB (decide_eq_false HD.out).symm, _, rfl⟩
      · have HD : Hid (xl.map Blk.l = yl.map Blk.l) := by
          have h := HE.out
          have hL := HL.out
          rw [List.take_of_length_le (by simp; omega), List.take_of_length_le (by simp; omega)] at h
          exact h
        clear ha hb
        go_wp2
        go_ret
        exact ⟨retB (decide_eq_true HD.out).symm, _, rfl⟩
  · have hne : ((xl.length : Int) != (yl.length : Int)) = true := by simp; omega
    have HD : Hid (¬ xl.map Blk.l = yl.map Blk.l) := fun e => hl (by have := congrArg List.length e; simpa using this)
    clear hl ha hb
    go_enter Try.func14, Try.ntmps14
    go_wp2
    go_ret
    exact ⟨retB (decide_eq_false HD.out).symm, 0, rfl⟩

end Go.Proofs.Ytclbmfjincekfab
