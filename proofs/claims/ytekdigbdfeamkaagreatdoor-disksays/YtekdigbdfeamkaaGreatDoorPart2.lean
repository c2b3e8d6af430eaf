import Derived.Test.YtekdigbdfeamkaaGreatDoorPart1
import Derived.Shelf.Abstract
import Derived.Deep.CutBlock
import Derived.Maps.OwnSet
import Derived.Maps.StringElems
/-
  Chapter 2 in plain functions on numbers and lists: how many blocks, what Check answers, what is cut, what is joined. Nothing of any program.
-/
namespace Go.Proofs.YtekdigbdfeamkaaGreatDoor
set_option linter.unusedVariables false
set_option linter.unusedSimpArgs false

/-- none is longer than its memory -/
def Caps (bl : List Blk) : Prop := ∀ b ∈ bl, b.l.length ≤ b.cap

/-- chapter 2's Blocks -/
def nB (B K : Int) : Int := if B < 1 ∨ K < 1 then 0 else (B - 1) / K + 1

/-- chapter 2's Check -/
def chkP (B K : Int) : Int := if B < 1 ∨ 360 < B ∨ K < 1 ∨ 16 < K then 3 else if 24 < nB B K then 2 else 0

theorem nB_none {B K : Int} (h : B < 1 ∨ K < 1) : nB B K = 0 := if_pos h
theorem nB_some {B K : Int} (h : 1 ≤ B) (k : 1 ≤ K) : nB B K = (B - 1) / K + 1 := if_neg (by omega)

theorem nB_nat (n k : Nat) (hn : 1 ≤ n) (hk : 1 ≤ k) : nB n k = (((n - 1) / k + 1 : Nat) : Int) := by
  rw [nB_some (by omega) (by omega)]
  have : (n : Int) - 1 = ((n - 1 : Nat) : Int) := by omega
  rw [this]
  simp

/-- a plan that Check takes: its numbers -/
structure Good (B K : Int) (n k nb : Nat) : Prop where
  eB : B = n
  eK : K = k
  n1 : 1 ≤ n
  n2 : n ≤ 360
  k1 : 1 ≤ k
  k2 : k ≤ 16
  eN : nB B K = nb
  b1 : 1 ≤ nb
  b2 : nb ≤ 24
  lo : (nb - 1) * k < n
  hi : n ≤ nb * k

theorem nb_bounds {n k : Nat} (hn : 1 ≤ n) (hk : 1 ≤ k) : ((n - 1) / k + 1 - 1) * k < n ∧ n ≤ ((n - 1) / k + 1) * k := by
  have h1 := Nat.div_mul_le_self (n - 1) k
  have h2 := Nat.lt_div_mul_add (a := n - 1) hk
  rw [Nat.add_sub_cancel, Nat.add_mul, Nat.one_mul]
  omega

theorem good_of {B K : Int} (h : chkP B K = 0) : ∃ n k nb, Good B K n k nb := by
  unfold chkP at h
  by_cases hr : B < 1 ∨ 360 < B ∨ K < 1 ∨ 16 < K
  · rw [if_pos hr] at h; omega
  · rw [if_neg hr] at h
    by_cases hm : 24 < nB B K
    · rw [if_pos hm] at h; omega
    · have eB : B = (B.toNat : Int) := by omega
      have eK : K = (K.toNat : Int) := by omega
      have hn : 1 ≤ B.toNat := by omega
      have hk : 1 ≤ K.toNat := by omega
      have e := nB_nat B.toNat K.toNat hn hk
      rw [← eB, ← eK] at e
      have hb := nb_bounds hn hk
      generalize (B.toNat - 1) / K.toNat = q at e hb
      exact ⟨B.toNat, K.toNat, _, eB, eK, hn, by omega, hk, by omega, e, by omega, by omega, hb.1, hb.2⟩

theorem chkP_good {B K : Int} {n k nb : Nat} (g : Good B K n k nb) : chkP B K = 0 := by
  unfold chkP
  have := g.eB; have := g.eK; have := g.n1; have := g.n2; have := g.k1; have := g.k2
  rw [if_neg (by omega), if_neg (by rw [g.eN]; have := g.b2; omega)]

/-- the number of blocks is the only one that fits -/
theorem nb_only {n k a b : Nat} (ha : (a - 1) * k < n) (ha' : n ≤ a * k) (hb : (b - 1) * k < n) (hb' : n ≤ b * k) (h1 : 1 ≤ a) (h2 : 1 ≤ b) : a = b := by
  have h3 : ¬ a ≤ b - 1 := fun h => by have := Nat.mul_le_mul_right k h; omega
  have h4 : ¬ b ≤ a - 1 := fun h => by have := Nat.mul_le_mul_right k h; omega
  omega

theorem good_mk {n k nb : Nat} (n1 : 1 ≤ n) (n2 : n ≤ 360) (k1 : 1 ≤ k) (k2 : k ≤ 16) (b1 : 1 ≤ nb) (b2 : nb ≤ 24) (lo : (nb - 1) * k < n) (hi : n ≤ nb * k) : Good n k n k nb := by
  have e := nB_nat n k n1 k1
  have hb := nb_bounds n1 k1
  have := nb_only lo hi hb.1 hb.2 b1 (Nat.le_add_left 1 _)
  exact ⟨rfl, rfl, n1, n2, k1, k2, by rw [e, ← this], b1, b2, lo, hi⟩

/-- block i of a cargo -/
def piece (k i : Nat) (c : List UInt8) : List UInt8 := (List.range k).map fun t => (c[i * k + t]?).getD 0

theorem piece_length (k i : Nat) (c : List UInt8) : (piece k i c).length = k := by simp [piece]

theorem piece_get {k i t : Nat} (c : List UInt8) (h : t < k) : (piece k i c)[t]? = some ((c[i * k + t]?).getD 0) := by simp [piece, h]

def cutL (nb k : Nat) (c : List UInt8) : List (List UInt8) := (List.range nb).map fun i => piece k i c

theorem cutL_length (nb k : Nat) (c : List UInt8) : (cutL nb k c).length = nb := by simp [cutL]

theorem cutL_get {nb k i : Nat} (c : List UInt8) (h : i < nb) : (cutL nb k c)[i]? = some (piece k i c) := by simp [cutL, h]

theorem cutL_all (nb k : Nat) (c : List UInt8) : ∀ b ∈ cutL nb k c, b.length = k := by
  intro b hb
  obtain ⟨i, _, rfl⟩ := List.mem_map.1 hb
  exact piece_length _ _ _

theorem cutL_succ (i k : Nat) (c : List UInt8) : cutL (i + 1) k c = cutL i k c ++ [piece k i c] := by simp [cutL, List.range_succ]

theorem flatten_length_of {k : Nat} {ls : List (List UInt8)} (h : ∀ b ∈ ls, b.length = k) : ls.flatten.length = ls.length * k := by
  induction ls with
  | nil => simp
  | cons b r ih =>
    have hb := h b (by simp)
    have := ih fun c hc => h c (by simp [hc])
    simp only [List.flatten_cons, List.length_append, List.length_cons, Nat.add_mul, Nat.one_mul]
    omega

theorem flatten_get {k : Nat} {ls : List (List UInt8)} (h : ∀ b ∈ ls, b.length = k) (i t : Nat) (ht : t < k) : ls.flatten[i * k + t]? = (ls[i]?).bind fun b => b[t]? := by
  induction ls generalizing i with
  | nil => simp
  | cons b r ih =>
    have hb := h b (by simp)
    cases i with
    | zero => simp [List.getElem?_append, hb, ht]
    | succ i =>
      rw [List.flatten_cons, List.getElem?_append, if_neg (by rw [hb, Nat.add_mul]; omega), List.getElem?_cons_succ, ← ih (fun c hc => h c (by simp [hc])) i]
      congr 1
      rw [hb, Nat.add_mul]
      omega

/-- joined again -/
theorem cut_flatten (nb k : Nat) (c : List UInt8) (hc : c.length ≤ nb * k) (hk : 1 ≤ k) : (cutL nb k c).flatten = c ++ zeros (nb * k - c.length) := by
  apply List.ext_getElem?
  intro j
  have hl : (cutL nb k c).flatten.length = nb * k := by rw [flatten_length_of (cutL_all nb k c), cutL_length]
  by_cases hj : j < nb * k
  · have hi : j / k < nb := Nat.div_lt_of_lt_mul (by rw [Nat.mul_comm]; exact hj)
    have ht : j % k < k := Nat.mod_lt _ hk
    have hjj : j / k * k + j % k = j := by rw [Nat.mul_comm]; exact Nat.div_add_mod j k
    have e := flatten_get (cutL_all nb k c) (j / k) (j % k) ht
    rw [cutL_get c hi, hjj] at e
    simp only [Option.bind_some] at e
    rw [piece_get c ht, hjj] at e
    rw [e, List.getElem?_append]
    by_cases hcl : j < c.length
    · rw [if_pos hcl]; simp [hcl]
    · rw [if_neg hcl]
      have h1 : c[j]? = none := List.getElem?_eq_none (by omega)
      rw [h1]
      simp [zeros, List.getElem?_replicate]
      omega
  · rw [List.getElem?_eq_none (by omega), List.getElem?_eq_none (by simp [zeros]; omega)]

def allZero (l : List UInt8) : Bool := l.all (· == 0)

theorem allZero_zeros (n : Nat) : allZero (zeros n) = true := by simp [allZero, zeros]

theorem allZero_eq {l : List UInt8} (h : allZero l = true) : l = zeros l.length := by
  simp only [allZero, List.all_eq_true, beq_iff_eq] at h
  exact List.eq_replicate_iff.2 ⟨rfl, h⟩

/-- cut again -/
theorem cut_of_flatten {nb k n : Nat} {ls : List (List UInt8)} (h : ∀ b ∈ ls, b.length = k) (hl : ls.length = nb) (hz : allZero (ls.flatten.drop n) = true) : cutL nb k (ls.flatten.take n) = ls := by
  apply List.ext_getElem?
  intro i
  by_cases hi : i < nb
  · rw [cutL_get _ hi, List.getElem?_eq_getElem (by omega)]
    congr 1
    have hb := h ls[i] (by simp)
    apply List.ext_getElem?
    intro t
    by_cases ht : t < k
    · rw [piece_get _ ht]
      have e := flatten_get h i t ht
      have g1 : ls[i]? = some ls[i] := List.getElem?_eq_getElem (by omega)
      have g2 : ls[i][t]? = some (ls[i][t]'(by omega)) := List.getElem?_eq_getElem (by omega)
      rw [g1] at e
      simp only [Option.bind_some] at e
      rw [g2] at e ⊢
      congr 1
      rw [List.getElem?_take]
      by_cases hn : i * k + t < n
      · rw [if_pos hn, e]; rfl
      · rw [if_neg hn]
        have hd : (ls.flatten.drop n)[i * k + t - n]? = some ls[i][t] := by
          rw [List.getElem?_drop, ← e]
          congr 1
          omega
        rw [allZero_eq hz] at hd
        simp [zeros, List.getElem?_replicate] at hd
        simp [hd.2.symm]
    · rw [List.getElem?_eq_none (by rw [piece_length]; omega), List.getElem?_eq_none (by omega)]
  · rw [List.getElem?_eq_none (by rw [cutL_length]; omega), List.getElem?_eq_none (by omega)]

/-- the first blocks are those of the beginning -/
theorem cut_take {nb k j m : Nat} (c : List UInt8) (hj : j ≤ nb) (hm : m = min (j * k) c.length) : (cutL nb k c).take j = cutL j k (c.take m) := by
  apply List.ext_getElem?
  intro i
  rw [List.getElem?_take]
  by_cases hi : i < j
  · rw [if_pos hi, cutL_get _ hi, cutL_get _ (by omega)]
    congr 1
    unfold piece
    apply List.map_congr_left
    intro t ht
    have ht : t < k := by simpa using ht
    rw [List.getElem?_take]
    have h1 : (i + 1) * k ≤ j * k := Nat.mul_le_mul_right k (by omega)
    rw [Nat.add_mul, Nat.one_mul] at h1
    by_cases h2 : i * k + t < m
    · rw [if_pos h2]
    · rw [if_neg h2, List.getElem?_eq_none (by omega)]
  · rw [if_neg hi, List.getElem?_eq_none (by rw [cutL_length]; omega)]

/-- how Cut answers -/
def cutCode (B K : Int) (c : List UInt8) : Int := if chkP B K ≠ 0 then chkP B K else if (c.length : Int) ≠ B then 4 else 0
def cutRes (B K : Int) (c : List UInt8) : List (List UInt8) := if cutCode B K c = 0 then cutL (nB B K).toNat K.toNat c else []

/-- how Join answers -/
def joinCode (B K : Int) (ls : List (List UInt8)) : Int :=
  if chkP B K ≠ 0 then chkP B K else if (ls.length : Int) ≠ nB B K then 8 else if ls.all (fun b => (b.length : Int) == K) = false then 4 else if allZero (ls.flatten.drop B.toNat) = false then 4 else 0
def joinRes (B K : Int) (ls : List (List UInt8)) : List UInt8 := if joinCode B K ls = 0 then ls.flatten.take B.toNat else []

theorem cutCode_good {B K : Int} {n k nb : Nat} (g : Good B K n k nb) {c : List UInt8} (h : c.length = n) : cutCode B K c = 0 ∧ cutRes B K c = cutL nb k c := by
  have e : cutCode B K c = 0 := by
    unfold cutCode
    rw [if_neg (by rw [chkP_good g]; simp), if_neg (by rw [g.eB, h]; simp)]
  refine ⟨e, ?_⟩
  unfold cutRes
  rw [if_pos e, g.eN, g.eK]
  simp

theorem cutCode_zero {B K : Int} {c : List UInt8} (h : cutCode B K c = 0) : ∃ n k nb, Good B K n k nb ∧ c.length = n := by
  unfold cutCode at h
  by_cases hc : chkP B K = 0
  · rw [if_neg (by simp [hc])] at h
    obtain ⟨n, k, nb, g⟩ := good_of hc
    by_cases hl : (c.length : Int) = B
    · exact ⟨n, k, nb, g, by have := g.eB; omega⟩
    · rw [if_pos hl] at h; omega
  · rw [if_pos hc] at h; exact absurd h hc

theorem all_len_iff {k : Nat} {ls : List (List UInt8)} : ls.all (fun b => (b.length : Int) == (k : Int)) = true ↔ ∀ b ∈ ls, b.length = k := by
  simp only [List.all_eq_true, beq_iff_eq]
  constructor
  · intro h b hb; have := h b hb; omega
  · intro h b hb; have := h b hb; omega

theorem joinCode_good {B K : Int} {n k nb : Nat} (g : Good B K n k nb) {ls : List (List UInt8)} (hl : ls.length = nb) (ha : ∀ b ∈ ls, b.length = k) (hz : allZero (ls.flatten.drop n) = true) : joinCode B K ls = 0 ∧ joinRes B K ls = ls.flatten.take n := by
  have eB : B.toNat = n := by have := g.eB; omega
  have e : joinCode B K ls = 0 := by
    unfold joinCode
    rw [if_neg (by rw [chkP_good g]; simp), if_neg (by rw [g.eN, hl]; simp), if_neg (by rw [g.eK, all_len_iff.2 ha]; simp), if_neg (by rw [eB, hz]; simp)]
  refine ⟨e, ?_⟩
  unfold joinRes
  rw [if_pos e, eB]

theorem joinCode_zero {B K : Int} {ls : List (List UInt8)} (h : joinCode B K ls = 0) : ∃ n k nb, Good B K n k nb ∧ ls.length = nb ∧ (∀ b ∈ ls, b.length = k) ∧ allZero (ls.flatten.drop n) = true := by
  unfold joinCode at h
  by_cases hc : chkP B K = 0
  · rw [if_neg (by simp [hc])] at h
    obtain ⟨n, k, nb, g⟩ := good_of hc
    have eB : B.toNat = n := by have := g.eB; omega
    by_cases hl : (ls.length : Int) = nB B K
    · rw [if_neg (by simp [hl])] at h
      cases ha : ls.all (fun b => (b.length : Int) == K) with
      | false => rw [if_pos ha] at h; omega
      | true =>
        rw [if_neg (by simp [ha])] at h
        cases hz : allZero (ls.flatten.drop B.toNat) with
        | false => rw [if_pos hz] at h; omega
        | true =>
          rw [g.eK] at ha
          exact ⟨n, k, nb, g, by have := g.eN; omega, all_len_iff.1 ha, by rw [← eB]; exact hz⟩
    · rw [if_pos hl] at h; omega
  · rw [if_pos hc] at h; exact absurd h hc

/-- P2.3, the first half -/
theorem join_cut {B K : Int} {c : List UInt8} (h : cutCode B K c = 0) : joinCode B K (cutRes B K c) = 0 ∧ joinRes B K (cutRes B K c) = c := by
  obtain ⟨n, k, nb, g, hc⟩ := cutCode_zero h
  obtain ⟨_, e⟩ := cutCode_good g hc
  rw [e]
  have hf := cut_flatten nb k c (by have := g.hi; omega) g.k1
  have hz : allZero ((cutL nb k c).flatten.drop n) = true := by
    rw [hf, List.drop_left' hc]
    exact allZero_zeros _
  obtain ⟨e1, e2⟩ := joinCode_good g (cutL_length nb k c) (cutL_all nb k c) hz
  refine ⟨e1, ?_⟩
  rw [e2, hf, List.take_left' hc]

/-- P2.3, the second half -/
theorem cut_join {B K : Int} {ls : List (List UInt8)} (h : joinCode B K ls = 0) : cutCode B K (joinRes B K ls) = 0 ∧ cutRes B K (joinRes B K ls) = ls := by
  obtain ⟨n, k, nb, g, hl, ha, hz⟩ := joinCode_zero h
  obtain ⟨_, e⟩ := joinCode_good g hl ha hz
  have hn : (ls.flatten.take n).length = n := by
    rw [List.length_take, flatten_length_of ha, hl]
    have := g.hi
    omega
  rw [e]
  obtain ⟨e1, e2⟩ := cutCode_good g hn
  exact ⟨e1, by rw [e2]; exact cut_of_flatten ha hl hz⟩

end Go.Proofs.YtekdigbdfeamkaaGreatDoor

/-
  Chapter 2's smaller functions, and the reference's: the contract of each.
-/
namespace Go.Proofs.YtekdigbdfeamkaaGreatDoor
open Go.RowKit
set_option linter.unusedVariables false
set_option linter.unusedSimpArgs false

theorem div_le {B K : Int} (h : 1 ≤ B) (k : 1 ≤ K) : 0 ≤ (B - 1) / K ∧ (B - 1) / K ≤ B - 1 :=
  ⟨Int.ediv_nonneg (by omega) (by omega), Int.ediv_le_self _ (by omega)⟩

theorem cutBlocks_any (B K : Int) (w : World) (hB : I64 B) (hK : I64 K) :
    Calls Tryz.prog 83 #[.agg #[.int .i64 B, .int .i64 K]] w fun e w' => e = .returned (.int .i64 (nB B K)) ∧ Below w.heap.size w w' := by
  obtain ⟨hB1, hB2⟩ := hB
  obtain ⟨hK1, hK2⟩ := hK
  by_cases h1 : B < 1
  · go_enter Tryz.func83, Tryz.ntmps83
    go_wp2
    all_goals go_ret
    all_goals exact ⟨ret_int (nB_none (.inl h1)).symm, (Below.refl _ _).alloc (Nat.le_refl _) _⟩
  have h1 : 1 ≤ B := by omega
  by_cases h2 : K < 1
  · go_enter Tryz.func83, Tryz.ntmps83
    go_wp2
    all_goals go_ret
    all_goals exact ⟨ret_int (nB_none (.inr h2)).symm, (Below.refl _ _).alloc (Nat.le_refl _) _⟩
  have h2 : 1 ≤ K := by omega
  obtain ⟨d1, d2⟩ := div_le h1 h2
  go_enter Tryz.func83, Tryz.ntmps83
  go_wp2
  go_ret
  exact ⟨ret_int (nB_some h1 h2).symm, (Below.refl _ _).alloc (Nat.le_refl _) _⟩

theorem chkP_range {B K : Int} (h : B < 1 ∨ 360 < B ∨ K < 1 ∨ 16 < K) : chkP B K = 3 := if_pos h
theorem chkP_many {B K : Int} (h : ¬ (B < 1 ∨ 360 < B ∨ K < 1 ∨ 16 < K)) (k : 24 < nB B K) : chkP B K = 2 := by rw [chkP, if_neg h, if_pos k]
theorem chkP_ok {B K : Int} (h : ¬ (B < 1 ∨ 360 < B ∨ K < 1 ∨ 16 < K)) (k : ¬ 24 < nB B K) : chkP B K = 0 := by rw [chkP, if_neg h, if_neg k]

theorem cutCheck_any (B K : Int) (w : World) (hB : I64 B) (hK : I64 K) :
    Calls Tryz.prog 69 #[.agg #[.int .i64 B, .int .i64 K]] w fun e w' => e = .returned (.int .i64 (chkP B K)) ∧ Below w.heap.size w w' := by
  by_cases h1 : B < 1
  · go_enter Tryz.func69, Tryz.ntmps69
    go_wp2
    all_goals go_ret
    all_goals exact ⟨ret_int (chkP_range (.inl h1)).symm, (Below.refl _ _).alloc (Nat.le_refl _) _⟩
  have h1 : 1 ≤ B := by omega
  by_cases h2 : 360 < B
  · go_enter Tryz.func69, Tryz.ntmps69
    go_wp2
    all_goals go_ret
    all_goals exact ⟨ret_int (chkP_range (.inr (.inl h2))).symm, (Below.refl _ _).alloc (Nat.le_refl _) _⟩
  have h2 : B ≤ 360 := by omega
  by_cases h3 : K < 1
  · go_enter Tryz.func69, Tryz.ntmps69
    go_wp2
    all_goals go_ret
    all_goals exact ⟨ret_int (chkP_range (.inr (.inr (.inl h3)))).symm, (Below.refl _ _).alloc (Nat.le_refl _) _⟩
  have h3 : 1 ≤ K := by omega
  by_cases h4 : 16 < K
  · go_enter Tryz.func69, Tryz.ntmps69
    go_wp2
    all_goals go_ret
    all_goals exact ⟨ret_int (chkP_range (.inr (.inr (.inr h4)))).symm, (Below.refl _ _).alloc (Nat.le_refl _) _⟩
  have h4 : K ≤ 16 := by omega
  have hr : Hid (¬ (B < 1 ∨ 360 < B ∨ K < 1 ∨ 16 < K)) := show ¬ (B < 1 ∨ 360 < B ∨ K < 1 ∨ 16 < K) by omega
  by_cases h5 : 24 < nB B K
  · go_enter Tryz.func69, Tryz.ntmps69
    go_wp2_with fail
    refine (cutBlocks_any B K _ hB hK).mono ?_
    rintro e w1 ⟨rfl, hb⟩
    have hb := boxBelow hb
    go_wp2
    go_ret
    exact ⟨ret_int (chkP_many hr.out h5).symm, hb⟩
  · go_enter Tryz.func69, Tryz.ntmps69
    go_wp2_with fail
    refine (cutBlocks_any B K _ hB hK).mono ?_
    rintro e w1 ⟨rfl, hb⟩
    have hb := boxBelow hb
    go_wp2
    go_ret
    exact ⟨ret_int (chkP_ok hr.out (Int.not_lt.2 h5)).symm, hb⟩

theorem nB_alt {B K : Int} (h1 : 1 ≤ B) (h2 : 1 ≤ K) : (0 < B % K → nB B K = B / K + 1) ∧ (¬ 0 < B % K → nB B K = B / K) := by
  rw [nB_some h1 h2]
  have e := Int.mul_ediv_add_emod B K
  have m1 := Int.emod_nonneg B (show K ≠ 0 by omega)
  have m2 := Int.emod_lt_of_pos B (show 0 < K by omega)
  refine ⟨fun h => ?_, fun h => ?_⟩
  · have : (B - 1) / K = B / K := by
      have e2 : B - 1 = (B % K - 1) + K * (B / K) := by omega
      rw [e2, Int.add_mul_ediv_left _ _ (by omega), Int.ediv_eq_zero_of_lt (by omega) (by omega)]
      omega
    rw [this]
  · have : (B - 1) / K = B / K - 1 := by
      have e2 : B - 1 = (K - 1) + K * (B / K - 1) := by rw [Int.mul_sub]; omega
      rw [e2, Int.add_mul_ediv_left _ _ (by omega), Int.ediv_eq_zero_of_lt (by omega) (by omega)]
      omega
    omega

theorem div_le' {B K : Int} (h : 1 ≤ B) (k : 1 ≤ K) : 0 ≤ B / K ∧ B / K ≤ B := ⟨Int.ediv_nonneg (by omega) (by omega), Int.ediv_le_self _ (by omega)⟩

theorem div_room {B K : Int} (h : 1 ≤ B) (k : 1 ≤ K) (hB : B ≤ 9223372036854775807) (hm : 0 < B % K) : B / K + 1 ≤ 9223372036854775807 := by
  have := (nB_alt h k).1 hm
  rw [nB_some h k] at this
  have := div_le h k
  omega

theorem refBlocks_any (B K : Int) (w : World) (hB : I64 B) (hK : I64 K) :
    Calls Tryz.prog 103 #[.agg #[.int .i64 B, .int .i64 K]] w fun e w' => e = .returned (.int .i64 (nB B K)) ∧ Below w.heap.size w w' := by
  obtain ⟨hB1, hB2⟩ := hB
  obtain ⟨hK1, hK2⟩ := hK
  by_cases h1 : B < 1
  · go_enter Tryz.func103, Tryz.ntmps103
    go_wp2
    all_goals go_ret
    all_goals exact ⟨ret_int (nB_none (.inl h1)).symm, (Below.refl _ _).alloc (Nat.le_refl _) _⟩
  have h1 : 1 ≤ B := by omega
  by_cases h2 : K < 1
  · go_enter Tryz.func103, Tryz.ntmps103
    go_wp2
    all_goals go_ret
    all_goals exact ⟨ret_int (nB_none (.inr h2)).symm, (Below.refl _ _).alloc (Nat.le_refl _) _⟩
  have h2 : 1 ≤ K := by omega
  obtain ⟨d1, d2⟩ := div_le' h1 h2
  by_cases hm : 0 < B % K
  · have d3 := div_room h1 h2 hB2 hm
    go_enter Tryz.func103, Tryz.ntmps103
    go_wp2
    go_ret
    exact ⟨ret_int ((nB_alt h1 h2).1 hm).symm, (Below.refl _ _).alloc (Nat.le_refl _) _⟩
  · go_enter Tryz.func103, Tryz.ntmps103
    go_wp2
    go_ret
    exact ⟨ret_int ((nB_alt h1 h2).2 (Int.not_lt.2 hm)).symm, (Below.refl _ _).alloc (Nat.le_refl _) _⟩

theorem checkPlan_any (B K : Int) (w : World) (hB : I64 B) (hK : I64 K) :
    Calls Tryz.prog 81 #[.agg #[.int .i64 B, .int .i64 K]] w fun e w' => e = .returned (.int .i64 (chkP B K)) ∧ Below w.heap.size w w' := by
  by_cases h1 : 1 ≤ B ∧ B ≤ 360
  · have d1 : decide (1 ≤ B ∧ B ≤ 360) = true := decide_eq_true h1
    by_cases h2 : 1 ≤ K ∧ K ≤ 16
    · have d2 : decide (1 ≤ K ∧ K ≤ 16) = true := decide_eq_true h2
      have hr : Hid (¬ (B < 1 ∨ 360 < B ∨ K < 1 ∨ 16 < K)) := show ¬ (B < 1 ∨ 360 < B ∨ K < 1 ∨ 16 < K) by omega
      by_cases h5 : 24 < nB B K
      · go_enter Tryz.func81, Tryz.ntmps81
        go_wp2_with (go_at_call 64; refine (in_any _ _ _ _).mono ?_; rintro e w' ⟨rfl, rfl⟩)
        refine (refBlocks_any B K _ hB hK).mono ?_
        rintro e w1 ⟨rfl, hb⟩
        have hb := boxBelow hb
        go_wp2
        go_ret
        exact ⟨ret_int (chkP_many hr.out h5).symm, hb⟩
      · go_enter Tryz.func81, Tryz.ntmps81
        go_wp2_with (go_at_call 64; refine (in_any _ _ _ _).mono ?_; rintro e w' ⟨rfl, rfl⟩)
        refine (refBlocks_any B K _ hB hK).mono ?_
        rintro e w1 ⟨rfl, hb⟩
        have hb := boxBelow hb
        go_wp2
        go_ret
        exact ⟨ret_int (chkP_ok hr.out (Int.not_lt.2 h5)).symm, hb⟩
    · have d2 : decide (1 ≤ K ∧ K ≤ 16) = false := decide_eq_false h2
      have hr : Hid (chkP B K = 3) := chkP_range (by omega)
      clear h1 h2
      go_enter Tryz.func81, Tryz.ntmps81
      go_wp2_with (go_at_call 64; refine (in_any _ _ _ _).mono ?_; rintro e w' ⟨rfl, rfl⟩)
      go_ret
      exact ⟨ret_int hr.out.symm, (Below.refl _ _).alloc (Nat.le_refl _) _⟩
  · have d1 : decide (1 ≤ B ∧ B ≤ 360) = false := decide_eq_false h1
    have hr : Hid (chkP B K = 3) := chkP_range (by omega)
    clear h1
    go_enter Tryz.func81, Tryz.ntmps81
    go_wp2_with (go_at_call 64; refine (in_any _ _ _ _).mono ?_; rintro e w' ⟨rfl, rfl⟩)
    go_ret
    exact ⟨ret_int hr.out.symm, (Below.refl _ _).alloc (Nat.le_refl _) _⟩

theorem allZero_no {l : List UInt8} {k : Nat} (h : k < l.length) (hne : ((l[k].toNat : Int) != 0) = true) : allZero l = false := by
  rw [Bool.eq_false_iff]
  intro hz
  simp only [allZero, List.all_eq_true, beq_iff_eq] at hz
  have := hz l[k] (by simp)
  rw [this] at hne
  simp at hne

theorem u8_zero {x : UInt8} (h : ((x.toNat : Int) != 0) = false) : x = 0 := by
  simp at h
  exact UInt8.toNat_inj.1 (by simpa using h)

end Go.Proofs.YtekdigbdfeamkaaGreatDoor

/-
  Chapter 7, the reference: CheckHead.
-/
namespace Go.Proofs.YtekdigbdfeamkaaGreatDoor
open Go.RowKit
set_option linter.unusedVariables false
set_option linter.unusedSimpArgs false

/-- a head, told by its numbers -/
structure Hd where
  F : Int
  Q : Int
  T : Int
  L : Int
  B : Int
  K : Int

def Hd.val (h : Hd) : Value := .agg #[.int .i64 h.F, .int .i64 h.Q, .int .i64 h.T, .int .i64 h.L, .int .i64 h.B, .int .i64 h.K]
def Hd.ok (h : Hd) : Prop := I64 h.F ∧ I64 h.Q ∧ I64 h.T ∧ I64 h.L ∧ I64 h.B ∧ I64 h.K

/-- is it within its bounds? -/
def Hd.fits (h : Hd) : Prop := (0 ≤ h.F ∧ h.F ≤ 3) ∧ (0 ≤ h.T ∧ h.T ≤ 3) ∧ (0 ≤ h.Q ∧ h.Q ≤ 49) ∧ (1 ≤ h.L ∧ h.L ≤ 1000000)

instance (h : Hd) : Decidable h.fits := by unfold Hd.fits; exact inferInstance

/-- what chapter 7's Head answers -/
def hdCode (h : Hd) : Int := if ¬ h.fits then 3 else if h.F = h.T then 5 else chkP h.B h.K

set_option maxRecDepth 8000 in
theorem checkHead_any (h : Hd) (w : World) (ho : h.ok) :
    Calls Tryz.prog 65 #[h.val] w fun e w' => e = .returned (.int .i64 (hdCode h)) ∧ Below w.heap.size w w' := by
  obtain ⟨F, Q, T, L, B, K⟩ := h
  obtain ⟨oF, oQ, oT, oL, oB, oK⟩ := ho
  simp only [Hd.val] at *
  have hBl : Below w.heap.size w (w.alloc (.cells #[.int .i64 F, .int .i64 Q, .int .i64 T, .int .i64 L, .int .i64 B, .int .i64 K] 28)) := (Below.refl _ _).alloc (Nat.le_refl _) _
  by_cases h1 : 0 ≤ F ∧ F ≤ 3
  · by_cases h2 : 0 ≤ T ∧ T ≤ 3
    · by_cases h3 : 0 ≤ Q ∧ Q ≤ 49
      · by_cases h4 : 1 ≤ L ∧ L ≤ 1000000
        · have d1 := Shut.mk (decide_eq_true h1)
          have d2 := Shut.mk (decide_eq_true h2)
          have d3 := Shut.mk (decide_eq_true h3)
          have d4 := Shut.mk (decide_eq_true h4)
          have hf : (⟨F, Q, T, L, B, K⟩ : Hd).fits := ⟨h1, h2, h3, h4⟩
          by_cases h5 : F = T
          · have hc : hdCode ⟨F, Q, T, L, B, K⟩ = 5 := by rw [hdCode, if_neg (by simp [hf]), if_pos h5]
            have HC := Shut.mk hc
            have h5' : (F == T) = true := by simpa using h5
            clear h1 h2 h3 h4 hf hc h5
            go_enter Tryz.func65, Tryz.ntmps65
            go_wp2_with fail
            refine (in_any F 0 3 _).mono ?_
            rintro e w2 ⟨rfl, rfl⟩
            rw [d1.out]
            go_wp2_with fail
            refine (in_any T 0 3 _).mono ?_
            rintro e w2 ⟨rfl, rfl⟩
            rw [d2.out]
            go_wp2_with fail
            refine (in_any Q 0 49 _).mono ?_
            rintro e w2 ⟨rfl, rfl⟩
            rw [d3.out]
            go_wp2_with fail
            refine (in_any L 1 1000000 _).mono ?_
            rintro e w2 ⟨rfl, rfl⟩
            rw [d4.out]
            go_wp2
            go_ret
            exact ⟨ret_int HC.out.symm, hBl⟩
          · have hc : hdCode ⟨F, Q, T, L, B, K⟩ = chkP B K := by rw [hdCode, if_neg (by simp [hf]), if_neg h5]
            have HC := Shut.mk hc
            have h5' : (F == T) = false := by simpa using h5
            have hP := checkPlan_any B K (w.alloc (.cells #[.int .i64 F, .int .i64 Q, .int .i64 T, .int .i64 L, .int .i64 B, .int .i64 K] 28)) oB oK
            clear h1 h2 h3 h4 hf hc h5
            go_enter Tryz.func65, Tryz.ntmps65
            go_wp2_with fail
            refine (in_any F 0 3 _).mono ?_
            rintro e w2 ⟨rfl, rfl⟩
            rw [d1.out]
            go_wp2_with fail
            refine (in_any T 0 3 _).mono ?_
            rintro e w2 ⟨rfl, rfl⟩
            rw [d2.out]
            go_wp2_with fail
            refine (in_any Q 0 49 _).mono ?_
            rintro e w2 ⟨rfl, rfl⟩
            rw [d3.out]
            go_wp2_with fail
            refine (in_any L 1 1000000 _).mono ?_
            rintro e w2 ⟨rfl, rfl⟩
            rw [d4.out]
            go_wp2_with fail
            refine hP.mono ?_
            rintro e w3 ⟨rfl, hb3⟩
            have hF := hBl.trans (hb3.mono hBl.size)
            clear hP hb3
            go_wp2
            go_ret
            exact ⟨ret_int HC.out.symm, hF⟩
        · have d1 := Shut.mk (decide_eq_true h1)
          have d2 := Shut.mk (decide_eq_true h2)
          have d3 := Shut.mk (decide_eq_true h3)
          have d4 := Shut.mk (decide_eq_false h4)
          have HC : Shut (hdCode ⟨F, Q, T, L, B, K⟩ = 3) := ⟨by rw [hdCode, if_pos (fun hf => h4 hf.2.2.2)]⟩
          clear h1 h2 h3 h4
          go_enter Tryz.func65, Tryz.ntmps65
          go_wp2_with fail
          refine (in_any F 0 3 _).mono ?_
          rintro e w2 ⟨rfl, rfl⟩
          rw [d1.out]
          go_wp2_with fail
          refine (in_any T 0 3 _).mono ?_
          rintro e w2 ⟨rfl, rfl⟩
          rw [d2.out]
          go_wp2_with fail
          refine (in_any Q 0 49 _).mono ?_
          rintro e w2 ⟨rfl, rfl⟩
          rw [d3.out]
          go_wp2_with fail
          refine (in_any L 1 1000000 _).mono ?_
          rintro e w2 ⟨rfl, rfl⟩
          rw [d4.out]
          go_wp2
          go_ret
          exact ⟨ret_int HC.out.symm, hBl⟩
      · have d1 := Shut.mk (decide_eq_true h1)
        have d2 := Shut.mk (decide_eq_true h2)
        have d3 := Shut.mk (decide_eq_false h3)
        have HC : Shut (hdCode ⟨F, Q, T, L, B, K⟩ = 3) := ⟨by rw [hdCode, if_pos (fun hf => h3 hf.2.2.1)]⟩
        clear h1 h2 h3
        go_enter Tryz.func65, Tryz.ntmps65
        go_wp2_with fail
        refine (in_any F 0 3 _).mono ?_
        rintro e w2 ⟨rfl, rfl⟩
        rw [d1.out]
        go_wp2_with fail
        refine (in_any T 0 3 _).mono ?_
        rintro e w2 ⟨rfl, rfl⟩
        rw [d2.out]
        go_wp2_with fail
        refine (in_any Q 0 49 _).mono ?_
        rintro e w2 ⟨rfl, rfl⟩
        rw [d3.out]
        go_wp2
        go_ret
        exact ⟨ret_int HC.out.symm, hBl⟩
    · have d1 := Shut.mk (decide_eq_true h1)
      have d2 := Shut.mk (decide_eq_false h2)
      have HC : Shut (hdCode ⟨F, Q, T, L, B, K⟩ = 3) := ⟨by rw [hdCode, if_pos (fun hf => h2 hf.2.1)]⟩
      clear h1 h2
      go_enter Tryz.func65, Tryz.ntmps65
      go_wp2_with fail
      refine (in_any F 0 3 _).mono ?_
      rintro e w2 ⟨rfl, rfl⟩
      rw [d1.out]
      go_wp2_with fail
      refine (in_any T 0 3 _).mono ?_
      rintro e w2 ⟨rfl, rfl⟩
      rw [d2.out]
      go_wp2
      go_ret
      exact ⟨ret_int HC.out.symm, hBl⟩
  · have d1 := Shut.mk (decide_eq_false h1)
    have HC : Shut (hdCode ⟨F, Q, T, L, B, K⟩ = 3) := ⟨by rw [hdCode, if_pos (fun hf => h1 hf.1)]⟩
    clear h1
    go_enter Tryz.func65, Tryz.ntmps65
    go_wp2_with fail
    refine (in_any F 0 3 _).mono ?_
    rintro e w2 ⟨rfl, rfl⟩
    rw [d1.out]
    go_wp2
    go_ret
    exact ⟨ret_int HC.out.symm, hBl⟩

end Go.Proofs.YtekdigbdfeamkaaGreatDoor

/-
  Chapter 7, the reference: CheckRec's table of uses, and what a look-up in it answers.
-/
namespace Go.Proofs.YtekdigbdfeamkaaGreatDoor
open Go.RowKit Go.Maps
set_option linter.unusedVariables false
set_option linter.unusedSimpArgs false

theorem keyI : Keyed Tryz.prog 3 := int_keyed Tryz.underlying3

/-- the reference's table: which fields each kind uses -/
def usesT : List (Int × List UInt8) := [(1, [78, 72, 67]), (2, [72, 83]), (3, [72, 67]), (4, [80, 78, 84, 72]), (5, [84, 72]), (6, [80, 78, 84, 72]), (7, [72]), (8, [78])]

/-- .. of one kind -/
def usesL (k : Int) : Option (List UInt8) := (usesT.find? fun p => p.1 == k).map Prod.snd

/-- a table filled so far -/
def mapTo (l : List (Int × List UInt8)) : DataW Unit := l.foldl (fun m p => m.put (.int .i64 p.1) (.lit (.string p.2))) (.map [])

theorem insertK {w : World} {b n : Nat} {D : DataW Unit} (h : w.ownsMap Tryz.prog 3 (plainElem Tryz.prog 9) b n D) (hn : n ≤ 8) (k : Int) (hk : (Lit.int .i64 k).wf = true) (s : ByteArray) (hs : s.size ≤ 8) :
    ∃ w', (Instr.mapUpdate 105 (.map (some b)) (.int .i64 k) (.string s)).run Tryz.prog w = .ok () w' ∧ w'.ownsMap Tryz.prog 3 (plainElem Tryz.prog 9) b (n + 1) (D.put (.int .i64 k) (.lit (.string s.data.toList))) ∧ w.grownBy w' (some b) :=
  h.update keyI Tryz.underlying105 (by unfold maxLen; omega) (keyOf_int_mk Tryz.underlying3 hk) (plainElem_string Tryz.underlying9 (by unfold maxLen; omega))

theorem mapTo_all : mapTo usesT = .map (usesT.map fun p => (.int .i64 p.1, .lit (.string p.2))) := by rfl

theorem has_pairs (k : Int) : ∀ l : List (Int × List UInt8), Maps.has (H := Unit) (.map (l.map fun p => (.int .i64 p.1, .lit (.string p.2)))) (.int .i64 k) = (l.find? fun p => p.1 == k).isSome := by
  intro l
  induction l with
  | nil => rfl
  | cons p l ih =>
    simp only [Maps.has, List.map_cons, List.any_cons, Lit.sameKey, true_and] at ih ⊢
    rw [ih, List.find?_cons]
    by_cases e : p.1 = k
    · simp [e]
    · have e2 : (p.1 == k) = false := by simpa using e
      simp [e, e2]

theorem at_pairs (k : Int) : ∀ l : List (Int × List UInt8), DataW.atKey (H := Unit) (.map (l.map fun p => (.int .i64 p.1, .lit (.string p.2)))) (.int .i64 k) (.lit (.string [])) = .lit (.string (((l.find? fun p => p.1 == k).map Prod.snd).getD [])) := by
  intro l
  induction l with
  | nil => rfl
  | cons p l ih =>
    simp only [DataW.atKey, List.map_cons, List.find?_cons, Lit.sameKey, true_and] at ih ⊢
    by_cases e : p.1 = k
    · have e2 : (p.1 == k) = true := by simpa using e
      simp [e, e2]
    · have e2 : (p.1 == k) = false := by simpa using e
      simp only [e, e2, decide_false]
      exact ih

/-- what a look-up of a kind answers -/
theorem lookK {w : World} {b n : Nat} (h : w.ownsMap Tryz.prog 3 (plainElem Tryz.prog 9) b n (mapTo usesT)) (k : Int) (hk : (Lit.int .i64 k).wf = true) :
    ∃ s : ByteArray, (Instr.lookup 105 (.map (some b)) (.int .i64 k) true).run Tryz.prog w = .ok (.tuple #[.string s, .bool (usesL k).isSome]) w ∧ s.data.toList = (usesL k).getD [] := by
  obtain ⟨v, ps, hrun, hv⟩ := h.look_ok (e := 9) keyI Tryz.underlying105 (z := .string ByteArray.empty) (by kernel_rfl) (zd := .lit (.string [])) (zp := []) (plainElem_string Tryz.underlying9 (by simp [maxLen])) (keyOf_int_mk Tryz.underlying3 hk)
  obtain ⟨s, rfl, hz, _⟩ := plainElem_string_inv Tryz.underlying9 hv
  rw [mapTo_all] at hrun hz
  rw [has_pairs] at hrun
  rw [at_pairs] at hz
  refine ⟨s, ?_, ?_⟩
  · rw [hrun, usesL, Option.isSome_map]
  · have h3 := congrArg Prod.fst hz
    simp only [DataW.lit.injEq, Lit.string.injEq] at h3
    rw [usesL]
    exact h3.symm

/-- the table, filled: eight stores, one behind the other -/
theorem table_run (W : World) : ∃ w1 w2 w3 w4 w5 w6 w7 w8,
    (Instr.mapUpdate 105 (.map (some W.heap.size)) (.int .i64 1) (.string ⟨#[78, 72, 67]⟩)).run Tryz.prog (W.alloc (.map #[] 0)) = .ok () w1 ∧
    (Instr.mapUpdate 105 (.map (some W.heap.size)) (.int .i64 2) (.string ⟨#[72, 83]⟩)).run Tryz.prog w1 = .ok () w2 ∧
    (Instr.mapUpdate 105 (.map (some W.heap.size)) (.int .i64 3) (.string ⟨#[72, 67]⟩)).run Tryz.prog w2 = .ok () w3 ∧
    (Instr.mapUpdate 105 (.map (some W.heap.size)) (.int .i64 4) (.string ⟨#[80, 78, 84, 72]⟩)).run Tryz.prog w3 = .ok () w4 ∧
    (Instr.mapUpdate 105 (.map (some W.heap.size)) (.int .i64 5) (.string ⟨#[84, 72]⟩)).run Tryz.prog w4 = .ok () w5 ∧
    (Instr.mapUpdate 105 (.map (some W.heap.size)) (.int .i64 6) (.string ⟨#[80, 78, 84, 72]⟩)).run Tryz.prog w5 = .ok () w6 ∧
    (Instr.mapUpdate 105 (.map (some W.heap.size)) (.int .i64 7) (.string ⟨#[72]⟩)).run Tryz.prog w6 = .ok () w7 ∧
    (Instr.mapUpdate 105 (.map (some W.heap.size)) (.int .i64 8) (.string ⟨#[78]⟩)).run Tryz.prog w7 = .ok () w8 ∧
    w8.ownsMap Tryz.prog 3 (plainElem Tryz.prog 9) W.heap.size 8 (mapTo usesT) ∧ Below W.heap.size W w8 := by
  have h0 := World.ownsMap_made (H := Unit) W Tryz.prog 3 (plainElem Tryz.prog 9)
  obtain ⟨w1, r1, h1, g1⟩ := insertK h0 (by decide) 1 rfl ⟨#[78, 72, 67]⟩ (by decide)
  obtain ⟨w2, r2, h2, g2⟩ := insertK h1 (by decide) 2 rfl ⟨#[72, 83]⟩ (by decide)
  obtain ⟨w3, r3, h3, g3⟩ := insertK h2 (by decide) 3 rfl ⟨#[72, 67]⟩ (by decide)
  obtain ⟨w4, r4, h4, g4⟩ := insertK h3 (by decide) 4 rfl ⟨#[80, 78, 84, 72]⟩ (by decide)
  obtain ⟨w5, r5, h5, g5⟩ := insertK h4 (by decide) 5 rfl ⟨#[84, 72]⟩ (by decide)
  obtain ⟨w6, r6, h6, g6⟩ := insertK h5 (by decide) 6 rfl ⟨#[80, 78, 84, 72]⟩ (by decide)
  obtain ⟨w7, r7, h7, g7⟩ := insertK h6 (by decide) 7 rfl ⟨#[72]⟩ (by decide)
  obtain ⟨w8, r8, h8, g8⟩ := insertK h7 (by decide) 8 rfl ⟨#[78]⟩ (by decide)
  have bd : Below W.heap.size W (W.alloc (.map #[] 0)) := (Below.refl _ _).alloc (Nat.le_refl _) _
  have gr := grown_trans (grown_trans (grown_trans (grown_trans (grown_trans (grown_trans (grown_trans g1 g2) g3) g4) g5) g6) g7) g8
  refine ⟨w1, w2, w3, w4, w5, w6, w7, w8, r1, r2, r3, r4, r5, r6, r7, r8, h8, ?_⟩
  exact bd.grown gr (by simp) fun g hg => by cases hg; exact Nat.le_refl _

end Go.Proofs.YtekdigbdfeamkaaGreatDoor
