/-
  Chapter 1's smaller functions: the contract of each.
-/
import Derived.Test.YtclbmfjincekfabRows
import Derived.Test.YtclbmfjincekfabSumPure
import Derived.Test.YtclbmfjincekfabIn
import Derived.Deep.OwnRows
import Derived.BigQuiet
import Derived.Deep.QuietTactic
namespace Go.Proofs.Ytclbmfjincekfab
open Go.RowKit
set_option linter.unusedVariables false
set_option linter.unusedSimpArgs false

theorem AllIn.below {w w' : World} {bl : List Blk} (h : AllIn w bl) (hb : Below w.heap.size w w') : AllIn w' bl := fun b hm => ⟨(h b hm).1.below hb (Nat.le_refl _), (h b hm).2⟩

theorem lens_get {bl : List Blk} {k : Nat} (h : k < bl.length) : (lens bl)[k]'(by simpa [lens] using h) = bl[k].l.length := by simp [lens]

theorem chk_2 {bl : List Blk} {k : Nat} (hok : Hid (okTo ((lens bl).headD 0) (lens bl) k)) (h : k < bl.length) (hb : (bl[k].l.length : Int) < 1 ∨ 16 < (bl[k].l.length : Int)) : (2 : Int) = chk (lens bl) :=
  (((chkFrom_at hok.out (by simpa [lens] using h)).1 (by rw [lens_get h]; omega))).symm

theorem lens_head {bl : List Blk} (h : 0 < bl.length) : (lens bl).headD 0 = bl[0].l.length := by
  cases bl with
  | nil => simp at h
  | cons b r => simp [lens]

theorem chk_4 {bl : List Blk} {k : Nat} (hok : Hid (okTo ((lens bl).headD 0) (lens bl) k)) (h : k < bl.length) (h0 : 0 < bl.length) (h1 : 1 ≤ (bl[k].l.length : Int)) (h2 : (bl[k].l.length : Int) ≤ 16) (hne : ((bl[k].l.length : Int) != (bl[0].l.length : Int)) = true) : (4 : Int) = chk (lens bl) :=
  (((chkFrom_at hok.out (by simpa [lens] using h)).2 (by rw [lens_get h]; omega) (by
    rw [lens_get h, lens_head h0]
    simp at hne
    omega))).symm

theorem chk_go {bl : List Blk} {k : Nat} (hok : Hid (okTo ((lens bl).headD 0) (lens bl) k)) (h : k < bl.length) (h0 : 0 < bl.length) (h1 : 1 ≤ (bl[k].l.length : Int)) (h2 : (bl[k].l.length : Int) ≤ 16) (hne : ((bl[k].l.length : Int) != (bl[0].l.length : Int)) = false) : okTo ((lens bl).headD 0) (lens bl) (k + 1) :=
  okTo_succ hok.out (by simpa [lens] using h) (by rw [lens_get h]; omega) (by rw [lens_get h]; omega) (by
    rw [lens_get h, lens_head h0]
    simp at hne
    omega)

theorem chk_end {bl : List Blk} {k : Nat} (hok : Hid (okTo ((lens bl).headD 0) (lens bl) k)) (hk : k = bl.length) : (0 : Int) = chk (lens bl) := by
  subst hk
  exact (chkFrom_all (l := lens bl) (by simpa [lens] using hok.out)).symm

set_option maxHeartbeats 400000 in
/-- sum.Check -/
theorem check_any (a : Option Addr) (cap : Nat) (bl : List Blk) (w : World) (hn : bl.length ≤ maxLen) (ha : Lies w a (bl.map Blk.val)) (hall : AllIn w bl) :
    Calls Try.prog 43 #[.slice a bl.length cap] w fun e w' => e = .returned (.int .i64 (chk (lens bl))) ∧ w = w' := by
  unfold maxLen at hn
  have hf : ∀ i (h : i < bl.length), (bl[i].l.length : Int) ≤ 9223372036854775807 := fun i h => by
    have := (hall bl[i] (by simp)).2
    unfold maxLen at this
    omega
  go_enter Try.func43, Try.ntmps43
  go_wp2
  go_loop [7] (fun i => ∃ k : Nat, k ≤ bl.length ∧ i = .int .i64 k ∧ Hid (okTo ((lens bl).headD 0) (lens bl) k)) (fun i => bl.length - (intOf i).toNat)
  case atStart => exact ⟨0, Nat.zero_le _, rfl, okTo_zero _ _⟩
  case round =>
    obtain ⟨k, hk, rfl, hok⟩ := hrel
    by_cases hlt : k < bl.length
    · obtain ⟨b1, o1, rfl⟩ := ha.some (k := k) (by simpa using hlt)
      have h0lt : 0 < bl.length := by omega
      have h1 : w.cell? ⟨b1, o1 + k, none⟩ = some (.slice bl[k].a bl[k].l.length bl[k].cap) := ha.at (by simp [hlt, Blk.val])
      have h0 : w.cell? ⟨b1, o1, none⟩ = some (.slice bl[0].a bl[0].l.length bl[0].cap) := by simpa using ha.at (k := 0) (by simp [h0lt, Blk.val])
      clear ha hall
      by_cases hb1 : (bl[k].l.length : Int) < 1
      · go_wp2
        go_ret
        exact ⟨ret_int (chk_2 hok hlt (.inl hb1)), rfl⟩
      have hb1 : 1 ≤ (bl[k].l.length : Int) := by omega
      by_cases hb2 : 16 < (bl[k].l.length : Int)
      · go_wp2
        go_ret
        exact ⟨ret_int (chk_2 hok hlt (.inr hb2)), rfl⟩
      have hb2 : (bl[k].l.length : Int) ≤ 16 := by omega
      cases hne : ((bl[k].l.length : Int) != (bl[0].l.length : Int)) with
      | true =>
        go_wp2
        go_ret
        exact ⟨ret_int (chk_4 hok hlt h0lt hb1 hb2 hne), rfl⟩
      | false =>
        go_wp2
        go_round
        case rel => exact ⟨k + 1, by omega, by go_num, chk_go hok hlt h0lt hb1 hb2 hne⟩
        case measure => simp [intOf]; omega
    · clear ha hall
      go_wp2
      go_ret
      exact ⟨ret_int (chk_end hok (by omega)), rfl⟩

theorem okTo_prev {f : Nat} {l : List Nat} {k : Nat} (h : Hid (okTo f l k)) (hk : 0 < k) (hl : k ≤ l.length) : l[k - 1]'(by omega) = f := (h.out (k - 1) (by omega) (by omega)).2.2

theorem chk_4p {bl : List Blk} {k : Nat} (hok : Hid (okTo ((lens bl).headD 0) (lens bl) k)) (h : k < bl.length) (hp : k - 1 < bl.length) (h1 : 1 ≤ (bl[k].l.length : Int)) (h2 : (bl[k].l.length : Int) ≤ 16)
    (HP : Hid (bl[k - 1].l.length = (lens bl).headD 0)) (hne : ((bl[k].l.length : Int) != (bl[k - 1].l.length : Int)) = true) : (4 : Int) = chk (lens bl) :=
  (((chkFrom_at hok.out (by simpa [lens] using h)).2 (by rw [lens_get h]; omega) (by
    rw [lens_get h, ← HP.out]
    simp at hne
    omega))).symm

theorem chk_gop {bl : List Blk} {k : Nat} (hok : Hid (okTo ((lens bl).headD 0) (lens bl) k)) (h : k < bl.length) (hp : k - 1 < bl.length) (h1 : 1 ≤ (bl[k].l.length : Int)) (h2 : (bl[k].l.length : Int) ≤ 16)
    (HP : Hid (bl[k - 1].l.length = (lens bl).headD 0)) (hne : ((bl[k].l.length : Int) != (bl[k - 1].l.length : Int)) = false) : okTo ((lens bl).headD 0) (lens bl) (k + 1) :=
  okTo_succ hok.out (by simpa [lens] using h) (by rw [lens_get h]; omega) (by rw [lens_get h]; omega) (by
    rw [lens_get h, ← HP.out]
    simp at hne
    omega)

end Go.Proofs.Ytclbmfjincekfab
