/-
  What the bound of the second form gives: so many bytes in all blocks together.
-/
import Derived.Test.YtdeeankioejnkaaRows
import Derived.Test.YtdeeankioejnkaaOpen2
namespace Go.Proofs.Ytdeeankioejnkaa
set_option linter.unusedVariables false
set_option linter.unusedSimpArgs false

theorem bulk_pos {H : Type} (d : DataW H) : 1 ≤ Rows.uptoBulk d := by
  cases d with
  | lit l => cases l <;> simp [Rows.uptoBulk]
  | _ => simp [Rows.uptoBulk]

theorem bulk_len {H : Type} (l : List (DataW H)) : l.length ≤ Rows.uptoBulkAll l := by
  induction l with
  | nil => simp [Rows.uptoBulkAll]
  | cons d r ih =>
    have := bulk_pos d
    simp only [Rows.uptoBulkAll, List.length_cons]
    omega

theorem bulk_dlen {H : Type} (d : DataW H) : dlen d ≤ Rows.uptoBulk d := by
  cases d with
  | slice el sp =>
    have := bulk_len el
    simp only [dlen, Rows.uptoBulk]
    omega
  | _ => simp [dlen]

theorem bulk_dlens {H : Type} (l : List (DataW H)) : (l.map dlen).sum ≤ Rows.uptoBulkAll l := by
  induction l with
  | nil => simp
  | cons d r ih =>
    have := bulk_dlen d
    simp only [Rows.uptoBulkAll, List.map_cons, List.sum_cons]
    omega

theorem flatten_sum (bl : List Blk) : ((bl.map Blk.l).flatten).length = (bl.map fun b => b.l.length).sum := by
  induction bl with
  | nil => rfl
  | cons b r ih => simp [ih]

/-- the bytes of all blocks that were read -/
theorem bulk_blocks {H : Type} {d : DataW H} {bl : List Blk} (hd : (d = .nil ∧ bl = []) ∨ ∃ elems sp, d = .slice elems sp ∧ elems.map dlen = bl.map fun b => b.l.length) : ((bl.map Blk.l).flatten).length ≤ Rows.uptoBulk d := by
  rcases hd with ⟨_, rfl⟩ | ⟨elems, sp, rfl, h⟩
  · simp
  · rw [flatten_sum, ← h]
    have := bulk_dlens elems
    simp only [Rows.uptoBulk]
    omega

theorem bulk_part {H : Type} {d : DataW H} {l : List (DataW H)} (h : d ∈ l) : Rows.uptoBulk d ≤ Rows.uptoBulkAll l := by
  induction l with
  | nil => cases h
  | cons x r ih =>
    simp only [Rows.uptoBulkAll]
    cases List.mem_cons.1 h with
    | inl e => subst e; omega
    | inr e => have := ih e; omega

theorem bulk_bound {H : Type} {l : List (DataW H)} (hk : Rows.uptoSmall H l = true) : Rows.uptoBulkAll l ≤ 1048576 := of_decide_eq_true hk

end Go.Proofs.Ytdeeankioejnkaa
