/-
  What is added twice; in whatever order; in whatever parts: on lists. Nothing of any program.
-/
import Derived.Test.YtpibeoieknoabaaSum3
namespace Go.Proofs.Ytpibeoieknoabaa
open Go.RowKit
set_option linter.unusedVariables false
set_option linter.unusedSimpArgs false

theorem xorl_comm3 {n : Nat} {a b c : List UInt8} (ha : a.length = n) (hb : b.length = n) (hc : c.length = n) : xorl (xorl a b) c = xorl (xorl a c) b := by
  apply List.ext_getElem
  · simp [xorl, ha, hb, hc]
  · intro i h1 h2
    simp only [xorl, List.getElem_zipWith]
    rw [UInt8.xor_assoc, UInt8.xor_assoc]
    congr 1
    exact UInt8.xor_comm _ _

theorem xorl_twice {n : Nat} {a b : List UInt8} (ha : a.length = n) (hb : b.length = n) : xorl (xorl a b) b = a := by
  apply List.ext_getElem
  · simp [xorl, ha, hb]
  · intro i h1 h2
    simp only [xorl, List.getElem_zipWith]
    rw [UInt8.xor_assoc, UInt8.xor_self, UInt8.xor_zero]

theorem xorl_zeros {n : Nat} {b : List UInt8} (hb : b.length = n) : xorl (zeros n) b = b := by
  apply List.ext_getElem
  · simp [xorl, hb, zeros]
  · intro i h1 h2
    simp [xorl, zeros]

theorem sumTo_perm {n : Nat} {l m : List (List UInt8)} (h : l.Perm m) : ∀ (acc : List UInt8), acc.length = n → (∀ b ∈ l, b.length = n) → sumTo acc l = sumTo acc m := by
  induction h with
  | nil => intro acc _ _; rfl
  | cons x h ih =>
    intro acc ha hl
    have hx := hl x (by simp)
    exact ih _ (by rw [xorl_length _ _ (by omega), ha]) fun b hb => hl b (by simp [hb])
  | swap x y l =>
    intro acc ha hl
    simp only [sumTo]
    rw [xorl_comm3 ha (hl y (by simp)) (hl x (by simp))]
  | trans h1 h2 ih1 ih2 =>
    intro acc ha hl
    rw [ih1 acc ha hl, ih2 acc ha fun b hb => hl b (h1.mem_iff.2 hb)]

/-- right blocks, all of n bytes -/
def Right (n : Nat) (bl : List Blk) : Prop := 0 < bl.length ∧ 1 ≤ n ∧ n ≤ 16 ∧ ∀ b ∈ bl, b.l.length = n

theorem right_code {n : Nat} {bl : List Blk} (h : Right n bl) : addCode bl = 0 := by
  obtain ⟨h0, h1, h2, h3⟩ := h
  have hc : chk (lens bl) = 0 := by
    refine chkFrom_all fun i hi _ => ?_
    have hi' : i < bl.length := by simpa [lens] using hi
    have e : (lens bl).headD 0 = n := by rw [lens_head h0]; exact h3 _ (by simp)
    rw [lens_get hi', e, h3 bl[i] (by simp)]
    omega
  rw [addCode, if_pos hc, if_neg (by omega)]

theorem code_right {bl : List Blk} (h : addCode bl = 0) : ∃ n, Right n bl := by
  obtain ⟨hc, h0⟩ := addCode_good h
  have hg := good_lens h h0
  refine ⟨bl[0].l.length, h0, (hg 0 h0).2.1, (hg 0 h0).2.2, fun b hb => ?_⟩
  obtain ⟨i, hi, rfl⟩ := List.mem_iff_getElem.1 hb
  exact (hg i hi).1

theorem right_sum {n : Nat} {bl : List Blk} (h : Right n bl) : sumBl bl = sumTo (zeros n) (bl.map Blk.l) :=
  sumBl_zeros h.1 (show ∀ i (hi : i < bl.length), bl[i].l.length = n from fun i hi => h.2.2.2 _ (by simp))

theorem right_len {n : Nat} {bl : List Blk} (h : Right n bl) : (sumBl bl).length = n :=
  sumBl_len h.1 (show ∀ i (hi : i < bl.length), bl[i].l.length = n from fun i hi => h.2.2.2 _ (by simp))

theorem right_all {n : Nat} {bl : List Blk} (h : Right n bl) : ∀ b ∈ bl.map Blk.l, b.length = n := by
  intro b hb
  obtain ⟨c, hc, rfl⟩ := List.mem_map.1 hb
  exact h.2.2.2 c hc

theorem right_perm {n : Nat} {bl bm : List Blk} (h : Right n bl) (hp : bl.Perm bm) : Right n bm ∧ sumBl bm = sumBl bl := by
  have hr : Right n bm := ⟨by rw [← hp.length_eq]; exact h.1, h.2.1, h.2.2.1, fun b hb => h.2.2.2 b (hp.mem_iff.2 hb)⟩
  refine ⟨hr, ?_⟩
  rw [right_sum hr, right_sum h]
  exact (sumTo_perm (hp.map _) _ (by simp [zeros]) (right_all h)).symm

/-- s, x, x -/
theorem twice_pure {n : Nat} {bl : List Blk} (h : Right n bl) {x : Blk} (hx : x ∈ bl) {s : Blk} (hs : s.l = sumBl bl) : Right n [s, x, x] ∧ sumBl [s, x, x] = sumBl bl := by
  have hl := right_len h
  have hxl := h.2.2.2 x hx
  have hr : Right n [s, x, x] := ⟨by simp, h.2.1, h.2.2.1, fun b hb => by simp at hb; rcases hb with rfl | rfl; rw [hs, hl]; exact hxl⟩
  refine ⟨hr, ?_⟩
  rw [right_sum hr]
  simp only [List.map_cons, List.map_nil, sumTo]
  rw [xorl_zeros (by rw [hs, hl]), xorl_twice (by rw [hs, hl]) hxl, hs]

theorem erase_perm {bl : List Blk} {k : Nat} (hk : k < bl.length) : bl.Perm (bl.eraseIdx k ++ [bl[k]]) := by
  have e : bl = bl.take k ++ bl[k] :: bl.drop (k + 1) := by
    rw [List.getElem_cons_drop, List.take_append_drop]
  have h1 : bl.Perm (bl[k] :: (bl.take k ++ bl.drop (k + 1))) := by
    conv => lhs; rw [e]
    exact List.perm_middle
  rw [List.eraseIdx_eq_take_drop_succ]
  exact h1.trans (List.perm_append_comm (l₁ := [bl[k]]) (l₂ := bl.take k ++ bl.drop (k + 1)))

/-- the rest, then x -/
theorem parts_pure {n : Nat} {bl : List Blk} (h : Right n bl) {k : Nat} (hk : k < bl.length) (h2 : 0 < (bl.eraseIdx k).length) {u : Blk} (hu : u.l = sumBl (bl.eraseIdx k)) :
    Right n (bl.eraseIdx k) ∧ Right n [u, bl[k]] ∧ sumBl [u, bl[k]] = sumBl bl := by
  have hr : Right n (bl.eraseIdx k) := ⟨h2, h.2.1, h.2.2.1, fun b hb => h.2.2.2 b (List.mem_of_mem_eraseIdx hb)⟩
  have hl := right_len hr
  have hx := h.2.2.2 bl[k] (by simp)
  have hr2 : Right n [u, bl[k]] := ⟨by simp, h.2.1, h.2.2.1, fun b hb => by simp at hb; rcases hb with rfl | rfl; rw [hu, hl]; exact hx⟩
  refine ⟨hr, hr2, ?_⟩
  have hp : bl.Perm (bl.eraseIdx k ++ [bl[k]]) := erase_perm hk
  rw [right_sum hr2, ← (right_perm h hp).2, right_sum (right_perm h hp).1]
  simp only [List.map_cons, List.map_nil, sumTo, List.map_append, sumTo_append]
  rw [xorl_zeros (by rw [hu, hl]), hu, right_sum hr]

/-- alone -/
theorem alone_pure {n : Nat} {bl : List Blk} (h : Right n bl) {k : Nat} (hk : k < bl.length) (h2 : (bl.eraseIdx k).length = 0) : bl[k].l = sumBl bl := by
  have hl : bl.length = 1 := by rw [List.length_eraseIdx_of_lt hk] at h2; omega
  match bl, hl with
  | [b], _ =>
    have : k = 0 := by simpa using hk
    subst this
    rw [right_sum h]
    simp only [List.map_cons, List.map_nil, sumTo, List.getElem_cons_zero]
    rw [xorl_zeros (h.2.2.2 b (by simp))]

end Go.Proofs.Ytpibeoieknoabaa
