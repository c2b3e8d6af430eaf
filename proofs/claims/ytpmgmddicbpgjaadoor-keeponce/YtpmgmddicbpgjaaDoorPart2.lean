import Derived.Test.YtpmgmddicbpgjaaDoorPart1
import Derived.Shelf.Abstract
import Derived.Deep.CutBlock
import Derived.Maps.OwnSet
import Derived.Maps.StringElems
import Derived.Shelf.Slices.Turned
import Derived.Shelf.Bytes.SlSearch0
import Derived.Shelf.Bytes.SlEqualAll
import Derived.Shelf.Bytes.Small
import Derived.Test.YtpmgmddicbpgjaaDoorProg
import Derived.Laws.StructEq
import Derived.Laws.EntriesVeiled
/-
  Chapter 2 in plain functions on numbers and lists: how many blocks, what Check answers, what is cut, what is joined. Nothing of any program.
-/
namespace Go.Proofs.YtpmgmddicbpgjaaDoor
set_option linter.unusedVariables false
set_option linter.unusedSimpArgs false

/-- none is longer than its memory -/
def Caps (bl : List Blk) : Prop := ∀ b ∈ bl, b.l.length ≤ b.cap

/-- chapter 2's Blocks -/
def nB (B K : Int) : Int := if B < 1 ∨ K < 1 then 0 else (B - 1) / K + 1

/-- chapter 2's Check -/
def chkP (B K : Int) : Int := if B < 1 ∨ 360 < B ∨ K < 1 ∨ 16 < K then 3 else if 24 < nB B K then 2 else 0

theorem nB_none {B K : Int} (h : B < 1 ∨ K < 1) : nB B K = 0 := if_pos h
theorem nB_some {B K : Int} (h : 1 ≤ B) (k : 1 ≤ K) : nB B K = (B - 1) / K + 1 := if_neg (by omega)

theorem nB_nat (n k : Nat) (hn : 1 ≤ n) (hk : 1 ≤ k) : nB n k = (((n - 1) / k + 1 : Nat) : Int) := by
  rw [nB_some (by omega) (by omega)]
  have : (n : Int) - 1 = ((n - 1 : Nat) : Int) := by omega
  rw [this]
  simp

/-- a plan that Check takes: its numbers -/
structure Good (B K : Int) (n k nb : Nat) : Prop where
  eB : B = n
  eK : K = k
  n1 : 1 ≤ n
  n2 : n ≤ 360
  k1 : 1 ≤ k
  k2 : k ≤ 16
  eN : nB B K = nb
  b1 : 1 ≤ nb
  b2 : nb ≤ 24
  lo : (nb - 1) * k < n
  hi : n ≤ nb * k

theorem nb_bounds {n k : Nat} (hn : 1 ≤ n) (hk : 1 ≤ k) : ((n - 1) / k + 1 - 1) * k < n ∧ n ≤ ((n - 1) / k + 1) * k := by
  have h1 := Nat.div_mul_le_self (n - 1) k
  have h2 := Nat.lt_div_mul_add (a := n - 1) hk
  rw [Nat.add_sub_cancel, Nat.add_mul, Nat.one_mul]
  omega

theorem good_of {B K : Int} (h : chkP B K = 0) : ∃ n k nb, Good B K n k nb := by
  unfold chkP at h
  by_cases hr : B < 1 ∨ 360 < B ∨ K < 1 ∨ 16 < K
  · rw [if_pos hr] at h; omega
  · rw [if_neg hr] at h
    by_cases hm : 24 < nB B K
    · rw [if_pos hm] at h; omega
    · have eB : B = (B.toNat : Int) := by omega
      have eK : K = (K.toNat : Int) := by omega
      have hn : 1 ≤ B.toNat := by omega
      have hk : 1 ≤ K.toNat := by omega
      have e := nB_nat B.toNat K.toNat hn hk
      rw [← eB, ← eK] at e
      have hb := nb_bounds hn hk
      generalize (B.toNat - 1) / K.toNat = q at e hb
      exact ⟨B.toNat, K.toNat, _, eB, eK, hn, by omega, hk, by omega, e, by omega, by omega, hb.1, hb.2⟩

theorem chkP_good {B K : Int} {n k nb : Nat} (g : Good B K n k nb) : chkP B K = 0 := by
  unfold chkP
  have := g.eB; have := g.eK; have := g.n1; have := g.n2; have := g.k1; have := g.k2
  rw [if_neg (by omega), if_neg (by rw [g.eN]; have := g.b2; omega)]

/-- the number of blocks is the only one that fits -/
theorem nb_only {n k a b : Nat} (ha : (a - 1) * k < n) (ha' : n ≤ a * k) (hb : (b - 1) * k < n) (hb' : n ≤ b * k) (h1 : 1 ≤ a) (h2 : 1 ≤ b) : a = b := by
  have h3 : ¬ a ≤ b - 1 := fun h => by have := Nat.mul_le_mul_right k h; omega
  have h4 : ¬ b ≤ a - 1 := fun h => by have := Nat.mul_le_mul_right k h; omega
  omega

theorem good_mk {n k nb : Nat} (n1 : 1 ≤ n) (n2 : n ≤ 360) (k1 : 1 ≤ k) (k2 : k ≤ 16) (b1 : 1 ≤ nb) (b2 : nb ≤ 24) (lo : (nb - 1) * k < n) (hi : n ≤ nb * k) : Good n k n k nb := by
  have e := nB_nat n k n1 k1
  have hb := nb_bounds n1 k1
  have := nb_only lo hi hb.1 hb.2 b1 (Nat.le_add_left 1 _)
  exact ⟨rfl, rfl, n1, n2, k1, k2, by rw [e, ← this], b1, b2, lo, hi⟩

/-- block i of a cargo -/
def piece (k i : Nat) (c : List UInt8) : List UInt8 := (List.range k).map fun t => (c[i * k + t]?).getD 0

theorem piece_length (k i : Nat) (c : List UInt8) : (piece k i c).length = k := by simp [piece]

theorem piece_get {k i t : Nat} (c : List UInt8) (h : t < k) : (piece k i c)[t]? = some ((c[i * k + t]?).getD 0) := by simp [piece, h]

def cutL (nb k : Nat) (c : List UInt8) : List (List UInt8) := (List.range nb).map fun i => piece k i c

theorem cutL_length (nb k : Nat) (c : List UInt8) : (cutL nb k c).length = nb := by simp [cutL]

theorem cutL_get {nb k i : Nat} (c : List UInt8) (h : i < nb) : (cutL nb k c)[i]? = some (piece k i c) := by simp [cutL, h]

theorem cutL_all (nb k : Nat) (c : List UInt8) : ∀ b ∈ cutL nb k c, b.length = k := by
  intro b hb
  obtain ⟨i, _, rfl⟩ := List.mem_map.1 hb
  exact piece_length _ _ _

theorem cutL_succ (i k : Nat) (c : List UInt8) : cutL (i + 1) k c = cutL i k c ++ [piece k i c] := by simp [cutL, List.range_succ]

theorem flatten_length_of {k : Nat} {ls : List (List UInt8)} (h : ∀ b ∈ ls, b.length = k) : ls.flatten.length = ls.length * k := by
  induction ls with
  | nil => simp
  | cons b r ih =>
    have hb := h b (by simp)
    have := ih fun c hc => h c (by simp [hc])
    simp only [List.flatten_cons, List.length_append, List.length_cons, Nat.add_mul, Nat.one_mul]
    omega

theorem flatten_get {k : Nat} {ls : List (List UInt8)} (h : ∀ b ∈ ls, b.length = k) (i t : Nat) (ht : t < k) : ls.flatten[i * k + t]? = (ls[i]?).bind fun b => b[t]? := by
  induction ls generalizing i with
  | nil => simp
  | cons b r ih =>
    have hb := h b (by simp)
    cases i with
    | zero => simp [List.getElem?_append, hb, ht]
    | succ i =>
      rw [List.flatten_cons, List.getElem?_append, if_neg (by rw [hb, Nat.add_mul]; omega), List.getElem?_cons_succ, ← ih (fun c hc => h c (by simp [hc])) i]
      congr 1
      rw [hb, Nat.add_mul]
      omega

/-- joined again -/
theorem cut_flatten (nb k : Nat) (c : List UInt8) (hc : c.length ≤ nb * k) (hk : 1 ≤ k) : (cutL nb k c).flatten = c ++ zeros (nb * k - c.length) := by
  apply List.ext_getElem?
  intro j
  have hl : (cutL nb k c).flatten.length = nb * k := by rw [flatten_length_of (cutL_all nb k c), cutL_length]
  by_cases hj : j < nb * k
  · have hi : j / k < nb := Nat.div_lt_of_lt_mul (by rw [Nat.mul_comm]; exact hj)
    have ht : j % k < k := Nat.mod_lt _ hk
    have hjj : j / k * k + j % k = j := by rw [Nat.mul_comm]; exact Nat.div_add_mod j k
    have e := flatten_get (cutL_all nb k c) (j / k) (j % k) ht
    rw [cutL_get c hi, hjj] at e
    simp only [Option.bind_some] at e
    rw [piece_get c ht, hjj] at e
    rw [e, List.getElem?_append]
    by_cases hcl : j < c.length
    · rw [if_pos hcl]; simp [hcl]
    · rw [if_neg hcl]
      have h1 : c[j]? = none := List.getElem?_eq_none (by omega)
      rw [h1]
      simp [zeros, List.getElem?_replicate]
      omega
  · rw [List.getElem?_eq_none (by omega), List.getElem?_eq_none (by simp [zeros]; omega)]

def allZero (l : List UInt8) : Bool := l.all (· == 0)

theorem allZero_zeros (n : Nat) : allZero (zeros n) = true := by simp [allZero, zeros]

theorem allZero_eq {l : List UInt8} (h : allZero l = true) : l = zeros l.length := by
  simp only [allZero, List.all_eq_true, beq_iff_eq] at h
  exact List.eq_replicate_iff.2 ⟨rfl, h⟩

/-- cut again -/
theorem cut_of_flatten {nb k n : Nat} {ls : List (List UInt8)} (h : ∀ b ∈ ls, b.length = k) (hl : ls.length = nb) (hz : allZero (ls.flatten.drop n) = true) : cutL nb k (ls.flatten.take n) = ls := by
  apply List.ext_getElem?
  intro i
  by_cases hi : i < nb
  · rw [cutL_get _ hi, List.getElem?_eq_getElem (by omega)]
    congr 1
    have hb := h ls[i] (by simp)
    apply List.ext_getElem?
    intro t
    by_cases ht : t < k
    · rw [piece_get _ ht]
      have e := flatten_get h i t ht
      have g1 : ls[i]? = some ls[i] := List.getElem?_eq_getElem (by omega)
      have g2 : ls[i][t]? = some (ls[i][t]'(by omega)) := List.getElem?_eq_getElem (by omega)
      rw [g1] at e
      simp only [Option.bind_some] at e
      rw [g2] at e ⊢
      congr 1
      rw [List.getElem?_take]
      by_cases hn : i * k + t < n
      · rw [if_pos hn, e]; rfl
      · rw [if_neg hn]
        have hd : (ls.flatten.drop n)[i * k + t - n]? = some ls[i][t] := by
          rw [List.getElem?_drop, ← e]
          congr 1
          omega
        rw [allZero_eq hz] at hd
        simp [zeros, List.getElem?_replicate] at hd
        simp [hd.2.symm]
    · rw [List.getElem?_eq_none (by rw [piece_length]; omega), List.getElem?_eq_none (by omega)]
  · rw [List.getElem?_eq_none (by rw [cutL_length]; omega), List.getElem?_eq_none (by omega)]

/-- the first blocks are those of the beginning -/
theorem cut_take {nb k j m : Nat} (c : List UInt8) (hj : j ≤ nb) (hm : m = min (j * k) c.length) : (cutL nb k c).take j = cutL j k (c.take m) := by
  apply List.ext_getElem?
  intro i
  rw [List.getElem?_take]
  by_cases hi : i < j
  · rw [if_pos hi, cutL_get _ hi, cutL_get _ (by omega)]
    congr 1
    unfold piece
    apply List.map_congr_left
    intro t ht
    have ht : t < k := by simpa using ht
    rw [List.getElem?_take]
    have h1 : (i + 1) * k ≤ j * k := Nat.mul_le_mul_right k (by omega)
    rw [Nat.add_mul, Nat.one_mul] at h1
    by_cases h2 : i * k + t < m
    · rw [if_pos h2]
    · rw [if_neg h2, List.getElem?_eq_none (by omega)]
  · rw [if_neg hi, List.getElem?_eq_none (by rw [cutL_length]; omega)]

/-- how Cut answers -/
def cutCode (B K : Int) (c : List UInt8) : Int := if chkP B K ≠ 0 then chkP B K else if (c.length : Int) ≠ B then 4 else 0
def cutRes (B K : Int) (c : List UInt8) : List (List UInt8) := if cutCode B K c = 0 then cutL (nB B K).toNat K.toNat c else []

/-- how Join answers -/
def joinCode (B K : Int) (ls : List (List UInt8)) : Int :=
  if chkP B K ≠ 0 then chkP B K else if (ls.length : Int) ≠ nB B K then 8 else if ls.all (fun b => (b.length : Int) == K) = false then 4 else if allZero (ls.flatten.drop B.toNat) = false then 4 else 0
def joinRes (B K : Int) (ls : List (List UInt8)) : List UInt8 := if joinCode B K ls = 0 then ls.flatten.take B.toNat else []

theorem cutCode_good {B K : Int} {n k nb : Nat} (g : Good B K n k nb) {c : List UInt8} (h : c.length = n) : cutCode B K c = 0 ∧ cutRes B K c = cutL nb k c := by
  have e : cutCode B K c = 0 := by
    unfold cutCode
    rw [if_neg (by rw [chkP_good g]; simp), if_neg (by rw [g.eB, h]; simp)]
  refine ⟨e, ?_⟩
  unfold cutRes
  rw [if_pos e, g.eN, g.eK]
  simp

theorem cutCode_zero {B K : Int} {c : List UInt8} (h : cutCode B K c = 0) : ∃ n k nb, Good B K n k nb ∧ c.length = n := by
  unfold cutCode at h
  by_cases hc : chkP B K = 0
  · rw [if_neg (by simp [hc])] at h
    obtain ⟨n, k, nb, g⟩ := good_of hc
    by_cases hl : (c.length : Int) = B
    · exact ⟨n, k, nb, g, by have := g.eB; omega⟩
    · rw [if_pos hl] at h; omega
  · rw [if_pos hc] at h; exact absurd h hc

theorem all_len_iff {k : Nat} {ls : List (List UInt8)} : ls.all (fun b => (b.length : Int) == (k : Int)) = true ↔ ∀ b ∈ ls, b.length = k := by
  simp only [List.all_eq_true, beq_iff_eq]
  constructor
  · intro h b hb; have := h b hb; omega
  · intro h b hb; have := h b hb; omega

theorem joinCode_good {B K : Int} {n k nb : Nat} (g : Good B K n k nb) {ls : List (List UInt8)} (hl : ls.length = nb) (ha : ∀ b ∈ ls, b.length = k) (hz : allZero (ls.flatten.drop n) = true) : joinCode B K ls = 0 ∧ joinRes B K ls = ls.flatten.take n := by
  have eB : B.toNat = n := by have := g.eB; omega
  have e : joinCode B K ls = 0 := by
    unfold joinCode
    rw [if_neg (by rw [chkP_good g]; simp), if_neg (by rw [g.eN, hl]; simp), if_neg (by rw [g.eK, all_len_iff.2 ha]; simp), if_neg (by rw [eB, hz]; simp)]
  refine ⟨e, ?_⟩
  unfold joinRes
  rw [if_pos e, eB]

theorem joinCode_zero {B K : Int} {ls : List (List UInt8)} (h : joinCode B K ls = 0) : ∃ n k nb, Good B K n k nb ∧ ls.length = nb ∧ (∀ b ∈ ls, b.length = k) ∧ allZero (ls.flatten.drop n) = true := by
  unfold joinCode at h
  by_cases hc : chkP B K = 0
  · rw [if_neg (by simp [hc])] at h
    obtain ⟨n, k, nb, g⟩ := good_of hc
    have eB : B.toNat = n := by have := g.eB; omega
    by_cases hl : (ls.length : Int) = nB B K
    · rw [if_neg (by simp [hl])] at h
      cases ha : ls.all (fun b => (b.length : Int) == K) with
      | false => rw [if_pos ha] at h; omega
      | true =>
        rw [if_neg (by simp [ha])] at h
        cases hz : allZero (ls.flatten.drop B.toNat) with
        | false => rw [if_pos hz] at h; omega
        | true =>
          rw [g.eK] at ha
          exact ⟨n, k, nb, g, by have := g.eN; omega, all_len_iff.1 ha, by rw [← eB]; exact hz⟩
    · rw [if_pos hl] at h; omega
  · rw [if_pos hc] at h; exact absurd h hc

/-- P2.3, the first half -/
theorem join_cut {B K : Int} {c : List UInt8} (h : cutCode B K c = 0) : joinCode B K (cutRes B K c) = 0 ∧ joinRes B K (cutRes B K c) = c := by
  obtain ⟨n, k, nb, g, hc⟩ := cutCode_zero h
  obtain ⟨_, e⟩ := cutCode_good g hc
  rw [e]
  have hf := cut_flatten nb k c (by have := g.hi; omega) g.k1
  have hz : allZero ((cutL nb k c).flatten.drop n) = true := by
    rw [hf, List.drop_left' hc]
    exact allZero_zeros _
  obtain ⟨e1, e2⟩ := joinCode_good g (cutL_length nb k c) (cutL_all nb k c) hz
  refine ⟨e1, ?_⟩
  rw [e2, hf, List.take_left' hc]

/-- P2.3, the second half -/
theorem cut_join {B K : Int} {ls : List (List UInt8)} (h : joinCode B K ls = 0) : cutCode B K (joinRes B K ls) = 0 ∧ cutRes B K (joinRes B K ls) = ls := by
  obtain ⟨n, k, nb, g, hl, ha, hz⟩ := joinCode_zero h
  obtain ⟨_, e⟩ := joinCode_good g hl ha hz
  have hn : (ls.flatten.take n).length = n := by
    rw [List.length_take, flatten_length_of ha, hl]
    have := g.hi
    omega
  rw [e]
  obtain ⟨e1, e2⟩ := cutCode_good g hn
  exact ⟨e1, by rw [e2]; exact cut_of_flatten ha hl hz⟩

end Go.Proofs.YtpmgmddicbpgjaaDoor

/-
  Chapter 2's smaller functions, and the reference's: the contract of each.
-/
namespace Go.Proofs.YtpmgmddicbpgjaaDoor
open Go.RowKit
set_option linter.unusedVariables false
set_option linter.unusedSimpArgs false

theorem div_le {B K : Int} (h : 1 ≤ B) (k : 1 ≤ K) : 0 ≤ (B - 1) / K ∧ (B - 1) / K ≤ B - 1 :=
  ⟨Int.ediv_nonneg (by omega) (by omega), Int.ediv_le_self _ (by omega)⟩

theorem cutBlocks_any (B K : Int) (w : World) (hB : I64 B) (hK : I64 K) :
    Calls Tryd.prog 56 #[.agg #[.int .i64 B, .int .i64 K]] w fun e w' => e = .returned (.int .i64 (nB B K)) ∧ Below w.heap.size w w' := by
  obtain ⟨hB1, hB2⟩ := hB
  obtain ⟨hK1, hK2⟩ := hK
  by_cases h1 : B < 1
  · go_enter Tryd.func56, Tryd.ntmps56
    go_wp2
    all_goals go_ret
    all_goals exact ⟨ret_int (nB_none (.inl h1)).symm, (Below.refl _ _).alloc (Nat.le_refl _) _⟩
  have h1 : 1 ≤ B := by omega
  by_cases h2 : K < 1
  · go_enter Tryd.func56, Tryd.ntmps56
    go_wp2
    all_goals go_ret
    all_goals exact ⟨ret_int (nB_none (.inr h2)).symm, (Below.refl _ _).alloc (Nat.le_refl _) _⟩
  have h2 : 1 ≤ K := by omega
  obtain ⟨d1, d2⟩ := div_le h1 h2
  go_enter Tryd.func56, Tryd.ntmps56
  go_wp2
  go_ret
  exact ⟨ret_int (nB_some h1 h2).symm, (Below.refl _ _).alloc (Nat.le_refl _) _⟩

theorem chkP_range {B K : Int} (h : B < 1 ∨ 360 < B ∨ K < 1 ∨ 16 < K) : chkP B K = 3 := if_pos h
theorem chkP_many {B K : Int} (h : ¬ (B < 1 ∨ 360 < B ∨ K < 1 ∨ 16 < K)) (k : 24 < nB B K) : chkP B K = 2 := by rw [chkP, if_neg h, if_pos k]
theorem chkP_ok {B K : Int} (h : ¬ (B < 1 ∨ 360 < B ∨ K < 1 ∨ 16 < K)) (k : ¬ 24 < nB B K) : chkP B K = 0 := by rw [chkP, if_neg h, if_neg k]

theorem chkP_zero {B K : Int} (h : chkP B K = 0) : 1 ≤ B ∧ B ≤ 360 ∧ 1 ≤ K ∧ K ≤ 16 := by
  unfold chkP at h
  split at h
  · simp at h
  · omega

theorem cutCheck_any (B K : Int) (w : World) (hB : I64 B) (hK : I64 K) :
    Calls Tryd.prog 43 #[.agg #[.int .i64 B, .int .i64 K]] w fun e w' => e = .returned (.int .i64 (chkP B K)) ∧ Below w.heap.size w w' := by
  by_cases h1 : B < 1
  · go_enter Tryd.func43, Tryd.ntmps43
    go_wp2
    all_goals go_ret
    all_goals exact ⟨ret_int (chkP_range (.inl h1)).symm, (Below.refl _ _).alloc (Nat.le_refl _) _⟩
  have h1 : 1 ≤ B := by omega
  by_cases h2 : 360 < B
  · go_enter Tryd.func43, Tryd.ntmps43
    go_wp2
    all_goals go_ret
    all_goals exact ⟨ret_int (chkP_range (.inr (.inl h2))).symm, (Below.refl _ _).alloc (Nat.le_refl _) _⟩
  have h2 : B ≤ 360 := by omega
  by_cases h3 : K < 1
  · go_enter Tryd.func43, Tryd.ntmps43
    go_wp2
    all_goals go_ret
    all_goals exact ⟨ret_int (chkP_range (.inr (.inr (.inl h3)))).symm, (Below.refl _ _).alloc (Nat.le_refl _) _⟩
  have h3 : 1 ≤ K := by omega
  by_cases h4 : 16 < K
  · go_enter Tryd.func43, Tryd.ntmps43
    go_wp2
    all_goals go_ret
    all_goals exact ⟨ret_int (chkP_range (.inr (.inr (.inr h4)))).symm, (Below.refl _ _).alloc (Nat.le_refl _) _⟩
  have h4 : K ≤ 16 := by omega
  have hr : Hid (¬ (B < 1 ∨ 360 < B ∨ K < 1 ∨ 16 < K)) := show ¬ (B < 1 ∨ 360 < B ∨ K < 1 ∨ 16 < K) by omega
  by_cases h5 : 24 < nB B K
  · go_enter Tryd.func43, Tryd.ntmps43
    go_wp2_with fail
    refine (cutBlocks_any B K _ hB hK).mono ?_
    rintro e w1 ⟨rfl, hb⟩
    have hb := boxBelow hb
    go_wp2
    go_ret
    exact ⟨ret_int (chkP_many hr.out h5).symm, hb⟩
  · go_enter Tryd.func43, Tryd.ntmps43
    go_wp2_with fail
    refine (cutBlocks_any B K _ hB hK).mono ?_
    rintro e w1 ⟨rfl, hb⟩
    have hb := boxBelow hb
    go_wp2
    go_ret
    exact ⟨ret_int (chkP_ok hr.out (Int.not_lt.2 h5)).symm, hb⟩

theorem nB_alt {B K : Int} (h1 : 1 ≤ B) (h2 : 1 ≤ K) : (0 < B % K → nB B K = B / K + 1) ∧ (¬ 0 < B % K → nB B K = B / K) := by
  rw [nB_some h1 h2]
  have e := Int.mul_ediv_add_emod B K
  have m1 := Int.emod_nonneg B (show K ≠ 0 by omega)
  have m2 := Int.emod_lt_of_pos B (show 0 < K by omega)
  refine ⟨fun h => ?_, fun h => ?_⟩
  · have : (B - 1) / K = B / K := by
      have e2 : B - 1 = (B % K - 1) + K * (B / K) := by omega
      rw [e2, Int.add_mul_ediv_left _ _ (by omega), Int.ediv_eq_zero_of_lt (by omega) (by omega)]
      omega
    rw [this]
  · have : (B - 1) / K = B / K - 1 := by
      have e2 : B - 1 = (K - 1) + K * (B / K - 1) := by rw [Int.mul_sub]; omega
      rw [e2, Int.add_mul_ediv_left _ _ (by omega), Int.ediv_eq_zero_of_lt (by omega) (by omega)]
      omega
    omega

theorem div_le' {B K : Int} (h : 1 ≤ B) (k : 1 ≤ K) : 0 ≤ B / K ∧ B / K ≤ B := ⟨Int.ediv_nonneg (by omega) (by omega), Int.ediv_le_self _ (by omega)⟩

theorem div_room {B K : Int} (h : 1 ≤ B) (k : 1 ≤ K) (hB : B ≤ 9223372036854775807) (hm : 0 < B % K) : B / K + 1 ≤ 9223372036854775807 := by
  have := (nB_alt h k).1 hm
  rw [nB_some h k] at this
  have := div_le h k
  omega

theorem allZero_no {l : List UInt8} {k : Nat} (h : k < l.length) (hne : ((l[k].toNat : Int) != 0) = true) : allZero l = false := by
  rw [Bool.eq_false_iff]
  intro hz
  simp only [allZero, List.all_eq_true, beq_iff_eq] at hz
  have := hz l[k] (by simp)
  rw [this] at hne
  simp at hne

theorem u8_zero {x : UInt8} (h : ((x.toNat : Int) != 0) = false) : x = 0 := by
  simp at h
  exact UInt8.toNat_inj.1 (by simpa using h)

set_option maxHeartbeats 400000 in
theorem noughts_any (a : Option Addr) (cap : Nat) (l : List UInt8) (w : World) (hn : l.length ≤ maxLen) (ha : Lies w a (bs l)) :
    Calls Tryd.prog 75 #[.slice a l.length cap] w fun e w' => e = .returned (.bool (allZero l)) ∧ w = w' := by
  unfold maxLen at hn
  go_enter Tryd.func75, Tryd.ntmps75
  go_wp2
  go_loop [7] (fun i => ∃ k : Nat, k ≤ l.length ∧ i = .int .i64 k ∧ Hid (allZero (l.take k) = true)) (fun i => l.length - (intOf i).toNat)
  case atStart => exact ⟨0, Nat.zero_le _, rfl, rfl⟩
  case round =>
    obtain ⟨k, hk, rfl, hz⟩ := hrel
    by_cases hlt : k < l.length
    · obtain ⟨b1, o1, rfl⟩ := ha.some (k := k) (by rw [bs_length]; exact hlt)
      have h1 : w.cell? ⟨b1, o1 + k, none⟩ = some (.int .u8 (l[k].toNat : Int)) := ha.at (bs_get l k hlt)
      clear ha
      cases hne : ((l[k].toNat : Int) != 0) with
      | true =>
        have HZ : Hid (allZero l = false) := allZero_no hlt hne
        go_wp2
        go_ret
        exact ⟨retB HZ.out.symm, rfl⟩
      | false =>
        have HZ : Hid (allZero (l.take (k + 1)) = true) := by
          show allZero (l.take (k + 1)) = true
          have := hz.out
          rw [List.take_succ_eq_append_getElem hlt]
          simp only [allZero, List.all_append, Bool.and_eq_true] at this ⊢
          exact ⟨this, by simp [u8_zero hne]⟩
        go_wp2
        go_round
        case rel => exact ⟨k + 1, by omega, by go_num, HZ⟩
        case measure => simp [intOf]; omega
    · have HZ : Hid (allZero l = true) := by
        have := hz.out
        rwa [List.take_of_length_le (by omega)] at this
      clear ha
      go_wp2
      go_ret
      exact ⟨retB HZ.out.symm, rfl⟩

end Go.Proofs.YtpmgmddicbpgjaaDoor

/-
  Chapter 7, the reference: CheckHead.
-/
namespace Go.Proofs.YtpmgmddicbpgjaaDoor
open Go.RowKit
set_option linter.unusedVariables false
set_option linter.unusedSimpArgs false

/-- a head, told by its numbers -/
structure Hd where
  F : Int
  Q : Int
  T : Int
  L : Int
  B : Int
  K : Int

def Hd.val (h : Hd) : Value := .agg #[.int .i64 h.F, .int .i64 h.Q, .int .i64 h.T, .int .i64 h.L, .int .i64 h.B, .int .i64 h.K]
def Hd.ok (h : Hd) : Prop := I64 h.F ∧ I64 h.Q ∧ I64 h.T ∧ I64 h.L ∧ I64 h.B ∧ I64 h.K

/-- is it within its bounds? -/
def Hd.fits (h : Hd) : Prop := (0 ≤ h.F ∧ h.F ≤ 3) ∧ (0 ≤ h.T ∧ h.T ≤ 3) ∧ (0 ≤ h.Q ∧ h.Q ≤ 49) ∧ (1 ≤ h.L ∧ h.L ≤ 1000000)

instance (h : Hd) : Decidable h.fits := by unfold Hd.fits; exact inferInstance

/-- what chapter 7's Head answers -/
def hdCode (h : Hd) : Int := if ¬ h.fits then 3 else if h.F = h.T then 5 else chkP h.B h.K

end Go.Proofs.YtpmgmddicbpgjaaDoor

/-
  Chapter 7, the reference: CheckRec's table of uses, and what a look-up in it answers.
-/
namespace Go.Proofs.YtpmgmddicbpgjaaDoor
open Go.RowKit Go.Maps
set_option linter.unusedVariables false
set_option linter.unusedSimpArgs false

theorem keyI : Keyed Tryd.prog 3 := int_keyed Tryd.underlying3

/-- the reference's table: which fields each kind uses -/
def usesT : List (Int × List UInt8) := [(1, [78, 72, 67]), (2, [72, 83]), (3, [72, 67]), (4, [80, 78, 84, 72]), (5, [84, 72]), (6, [80, 78, 84, 72]), (7, [72]), (8, [78])]

/-- .. of one kind -/
def usesL (k : Int) : Option (List UInt8) := (usesT.find? fun p => p.1 == k).map Prod.snd

/-- a table filled so far -/
def mapTo (l : List (Int × List UInt8)) : DataW Unit := l.foldl (fun m p => m.put (.int .i64 p.1) (.lit (.string p.2))) (.map [])

theorem mapTo_all : mapTo usesT = .map (usesT.map fun p => (.int .i64 p.1, .lit (.string p.2))) := by rfl

theorem has_pairs (k : Int) : ∀ l : List (Int × List UInt8), Maps.has (H := Unit) (.map (l.map fun p => (.int .i64 p.1, .lit (.string p.2)))) (.int .i64 k) = (l.find? fun p => p.1 == k).isSome := by
  intro l
  induction l with
  | nil => rfl
  | cons p l ih =>
    simp only [Maps.has, List.map_cons, List.any_cons, Lit.sameKey, true_and] at ih ⊢
    rw [ih, List.find?_cons]
    by_cases e : p.1 = k
    · simp [e]
    · have e2 : (p.1 == k) = false := by simpa using e
      simp [e, e2]

theorem at_pairs (k : Int) : ∀ l : List (Int × List UInt8), DataW.atKey (H := Unit) (.map (l.map fun p => (.int .i64 p.1, .lit (.string p.2)))) (.int .i64 k) (.lit (.string [])) = .lit (.string (((l.find? fun p => p.1 == k).map Prod.snd).getD [])) := by
  intro l
  induction l with
  | nil => rfl
  | cons p l ih =>
    simp only [DataW.atKey, List.map_cons, List.find?_cons, Lit.sameKey, true_and] at ih ⊢
    by_cases e : p.1 = k
    · have e2 : (p.1 == k) = true := by simpa using e
      simp [e, e2]
    · have e2 : (p.1 == k) = false := by simpa using e
      simp only [e, e2, decide_false]
      exact ih

end Go.Proofs.YtpmgmddicbpgjaaDoor

/-
  The library's sort at this program: the contract of slices.Sort, laid by program in plain words.
-/
namespace Go.Proofs
open Go.Shelf
def Tryd.lays108_ren : Go.Shelf.Ren := ⟨fun | 108 => 55 | n => n, fun | 28 => 80 | 3 => 3 | 0 => 0 | 4 => 4 | n => n, fun | n => n⟩
theorem Tryd.lays108 : Go.Proofs.Lays.n108 Tryd.prog Tryd.lays108_ren := {
  mixed := by kernel_rfl
  f108 := Tryd.func55.trans (congrArg some (by kernel_rfl))
  t0 := Tryd.underlying0
  a0 := Tryd.isAgg0
  z0 := Tryd.sizeOf0
  v0 := Tryd.zeroValue0
  t3 := Tryd.underlying3
  a3 := Tryd.isAgg3
  z3 := Tryd.sizeOf3
  v3 := Tryd.zeroValue3
  t4 := Tryd.underlying4
  a4 := Tryd.isAgg4
  z4 := Tryd.sizeOf4
  v4 := Tryd.zeroValue4
  t28 := Tryd.underlying80
  a28 := Tryd.isAgg80
  z28 := Tryd.sizeOf80
  v28 := Tryd.zeroValue80 }
open Go.Lib in
theorem Tryd.slices_Index_int (b off n c : Nat) (zs : List Int) (x : Int) (w : World) (hz : n ≤ zs.length) (hbig : n ≤ 9223372036854775807) (hc : ∀ j, j < zs.length → w.cell? ⟨b, off + j, none⟩ = some (.int .i64 (zs.getD j 0))) :
    Calls Tryd.prog 55 #[.slice (some ⟨b, off, none⟩) n c, .int .i64 x] w fun e w' => e = .returned (.int .i64 (Lib.idxOf (zs.take n) x)) ∧ w' = w := Any.slices_Index_int Tryd.lays108 b off n c zs x w hz hbig hc
open Go.Lib in
theorem Tryd.slices_Index_int_empty (a : Option Addr) (c : Nat) (x : Int) (w : World) :
    Calls Tryd.prog 55 #[.slice a 0 c, .int .i64 x] w fun e w' => e = .returned (.int .i64 (Lib.idxOf [] x)) ∧ w' = w := Any.slices_Index_int_empty Tryd.lays108 a c x w
def Tryd.lays107_ren : Go.Shelf.Ren := ⟨fun | 107 => 42 | 108 => 55 | n => n, fun | 28 => 80 | 3 => 3 | 4 => 4 | 0 => 0 | n => n, fun | n => n⟩
theorem Tryd.lays107 : Go.Proofs.Lays.n107 Tryd.prog Tryd.lays107_ren := {
  mixed := by kernel_rfl
  f107 := Tryd.func42.trans (congrArg some (by kernel_rfl))
  f108 := Tryd.func55.trans (congrArg some (by kernel_rfl))
  t0 := Tryd.underlying0
  a0 := Tryd.isAgg0
  z0 := Tryd.sizeOf0
  v0 := Tryd.zeroValue0
  t3 := Tryd.underlying3
  a3 := Tryd.isAgg3
  z3 := Tryd.sizeOf3
  v3 := Tryd.zeroValue3
  t4 := Tryd.underlying4
  a4 := Tryd.isAgg4
  z4 := Tryd.sizeOf4
  v4 := Tryd.zeroValue4
  t28 := Tryd.underlying80
  a28 := Tryd.isAgg80
  z28 := Tryd.sizeOf80
  v28 := Tryd.zeroValue80 }
open Go.Lib in
theorem Tryd.slices_Contains_int (b off n c : Nat) (zs : List Int) (x : Int) (w : World) (hz : n ≤ zs.length) (hbig : n ≤ 9223372036854775807) (hc : ∀ j, j < zs.length → w.cell? ⟨b, off + j, none⟩ = some (.int .i64 (zs.getD j 0))) :
    Calls Tryd.prog 42 #[.slice (some ⟨b, off, none⟩) n c, .int .i64 x] w fun e w' => e = .returned (.bool ((zs.take n).contains x)) ∧ w' = w := Any.slices_Contains_int Tryd.lays107 b off n c zs x w hz hbig hc
open Go.Lib in
theorem Tryd.slices_Contains_int_empty (a : Option Addr) (c : Nat) (x : Int) (w : World) :
    Calls Tryd.prog 42 #[.slice a 0 c, .int .i64 x] w fun e w' => e = .returned (.bool false) ∧ w' = w := Any.slices_Contains_int_empty Tryd.lays107 a c x w
def Tryd.lays115_ren : Go.Shelf.Ren := ⟨fun | 115 => 53 | n => n, fun | 37 => 35 | 4 => 4 | 9 => 9 | 5 => 5 | n => n, fun | n => n⟩
theorem Tryd.lays115 : Go.Proofs.Lays.n115 Tryd.prog Tryd.lays115_ren := {
  mixed := by kernel_rfl
  f115 := Tryd.func53.trans (congrArg some (by kernel_rfl))
  t4 := Tryd.underlying4
  a4 := Tryd.isAgg4
  z4 := Tryd.sizeOf4
  v4 := Tryd.zeroValue4
  t9 := Tryd.underlying9
  a9 := Tryd.isAgg9
  z9 := Tryd.sizeOf9
  v9 := Tryd.zeroValue9
  t37 := Tryd.underlying35
  a37 := Tryd.isAgg35
  z37 := Tryd.sizeOf35
  v37 := Tryd.zeroValue35 }
open Go.Proofs Go.RowKit Go.Lib in
theorem Tryd.bytes_Equal_strs (v1 v2 : Value) (t1 t2 : ByteArray) (w : World) (h1 : (convert 35 9 v1).run Tryd.prog w = .ok (.string t1) w) (h2 : (convert 35 9 v2).run Tryd.prog w = .ok (.string t2) w) :
    Calls Tryd.prog 53 #[v1, v2] w fun e w' => e = .returned (.bool (t1.toList == t2.toList)) ∧ w' = w := Any.bytes_Equal_strs Tryd.lays115 v1 v2 t1 t2 w h1 h2
def Tryd.laysnb115_ren : Go.Shelf.Ren := ⟨fun | 115 => 53 | n => n, fun | 37 => 35 | 4 => 4 | 9 => 9 | 5 => 5 | n => n, fun | n => n⟩
theorem Tryd.laysnb115 : Go.Proofs.Lays.nb115 Tryd.prog Tryd.laysnb115_ren := {
  mixed := by kernel_rfl
  f115 := Tryd.func53.trans (congrArg some (by kernel_rfl))
  t4 := Tryd.underlying4
  a4 := Tryd.isAgg4
  z4 := Tryd.sizeOf4
  v4 := Tryd.zeroValue4
  t9 := Tryd.underlying9
  a9 := Tryd.isAgg9
  z9 := Tryd.sizeOf9
  v9 := Tryd.zeroValue9
  t37 := Tryd.underlying35
  a37 := Tryd.isAgg35
  z37 := Tryd.sizeOf35
  v37 := Tryd.zeroValue35
  t5 := Tryd.underlying5
  a5 := Tryd.isAgg5
  z5 := Tryd.sizeOf5
  v5 := Tryd.zeroValue5 }
theorem Tryd.bytes_Equal_all (p1 p2 : Option Addr) (n c m d : Nat) (xs ys : List Int) (w : World) (hx : xs.length = n) (hy : ys.length = m) (h1 : Lib.BytesIn w p1 n xs) (h2 : Lib.BytesIn w p2 m ys) :
    Calls Tryd.prog 53 #[.slice p1 n c, .slice p2 m d] w fun e w' => e = .returned (.bool (Lib.bytesOf xs == Lib.bytesOf ys)) ∧ w' = w := Any.bytes_Equal_all Tryd.laysnb115 p1 p2 n c m d xs ys w hx hy h1 h2
theorem Tryd.bytes_Equal (v1 v2 : Value) (xs ys : List Int) (w : World) (h1 : (convert 35 9 v1).run Tryd.prog w = .ok (.string (strOfNums xs)) w) (h2 : (convert 35 9 v2).run Tryd.prog w = .ok (.string (strOfNums ys)) w) :
    Calls Tryd.prog 53 #[v1, v2] w fun e w' => e = .returned (.bool (Lib.bytesOf xs == Lib.bytesOf ys)) ∧ w' = w := Any.bytes_Equal Tryd.lays115 v1 v2 xs ys w h1 h2
end Go.Proofs

/-
  Chapter 7, the reference: CheckRec's two closures; a head held against none.
-/
namespace Go.Proofs.YtpmgmddicbpgjaaDoor
open Go.RowKit Go.Maps
set_option linter.unusedVariables false
set_option linter.unusedSimpArgs false

/-- is the letter among these? -/
def hasB (l : List UInt8) (c : UInt8) : Bool := decide (0 ≤ Lib.indexByte l c)

end Go.Proofs.YtpmgmddicbpgjaaDoor

/-
  Chapter 7: two heads that are compared whole.
-/
namespace Go.Proofs.YtpmgmddicbpgjaaDoor
open Go.RowKit
set_option linter.unusedVariables false
set_option linter.unusedSimpArgs false

instance : DecidableEq Hd := fun a b => by
  obtain ⟨a1, a2, a3, a4, a5, a6⟩ := a
  obtain ⟨b1, b2, b3, b4, b5, b6⟩ := b
  rw [Hd.mk.injEq]
  exact inferInstance

theorem eqlHead (a b : Hd) (W : World) : (binOp .eql 34 a.val b.val).run Tryd.prog W = .ok (.bool (decide (a = b))) W := by
  obtain ⟨a1, a2, a3, a4, a5, a6⟩ := a
  obtain ⟨b1, b2, b3, b4, b5, b6⟩ := b
  simp only [Hd.val, Hd.mk.injEq]
  have hs : Tryd.prog.underlying 34 = some (.struct (Tryd.prog.fieldsOf 34)) := by kernel_rfl
  have hp : Tryd.prog.stoodInHeld 34 = false := by kernel_rfl
  have hs2 : Tryd.prog.underlying 32 = some (.struct (Tryd.prog.fieldsOf 32)) := by kernel_rfl
  have hp2 : Tryd.prog.stoodInHeld 32 = false := by kernel_rfl
  have hi := Tryd.underlying3
  rw [run_eql_struct, run_equalIn_agg W 9999 _ _ _ hs hp]
  have hE : ∀ (x y : Int) (w : World) (d : Nat), (Op.equalIn (d + 1) 3 (.int .i64 x) (.int .i64 y)).run Tryd.prog w = .ok (x == y) w := fun x y w d => run_equalIn_int w d 3 .i64 .i64 x y hi
  have hP : ∀ (w : World) (d : Nat), (Op.equalIn (d + 2) 32 (.agg #[.int .i64 a5, .int .i64 a6]) (.agg #[.int .i64 b5, .int .i64 b6])).run Tryd.prog w = .ok (decide (a5 = b5 ∧ a6 = b6)) w := fun w d => by
    rw [run_equalIn_agg w (d + 1) _ _ _ hs2 hp2]
    simp only [Program.fieldsOf, Tryd.underlying32]
    simp [Op.eqFields, go_sem, hE]
    by_cases h5 : a5 = b5 <;> by_cases h6 : a6 = b6 <;> simp [h5, h6]
  simp only [Program.fieldsOf, Tryd.underlying34]
  simp [Op.eqFields, go_sem, hE, hP]
  by_cases h1 : a1 = b1 <;> by_cases h2 : a2 = b2 <;> by_cases h3 : a3 = b3 <;> by_cases h4 : a4 = b4 <;> by_cases h5 : a5 = b5 <;> by_cases h6 : a6 = b6 <;> simp [h1, h2, h3, h4, h5, h6]

end Go.Proofs.YtpmgmddicbpgjaaDoor

/-
  What lies in memory, of no program: blocks and their cells, carried from world to world.
-/
namespace Go.Proofs.YtpmgmddicbpgjaaDoor
open Go.RowKit
set_option linter.unusedVariables false
set_option linter.unusedSimpArgs false

theorem blkB {w w' : World} {b : Nat} {o : Obj} (h : w.heap[b]? = some o) (hb : Below w.heap.size w w') : w'.heap[b]? = some o := by
  refine (hb.block b ?_).trans h
  rcases Nat.lt_or_ge b w.heap.size with h1 | h1
  · exact h1
  · rw [Array.getElem?_eq_none h1] at h; cases h

theorem cellB {w : World} {b : Nat} {c : Array Value} {t : TypeId} {f : Nat × Nat} (h : w.heap[b]? = some (.cells c t f)) (j : Nat) (v : Value) (hv : c[j]? = some v) : w.cell? ⟨b, j, none⟩ = some v := by
  simp only [World.cell?, h]
  simpa using hv

theorem cellW {w w' : World} {b j : Nat} {v : Value} (h : w.cell? ⟨b, j, none⟩ = some v) (hb : Below w.heap.size w w') : w'.cell? ⟨b, j, none⟩ = some v := by
  have hh : w'.heap[b]? = w.heap[b]? := hb.block b (by
    rcases Nat.lt_or_ge b w.heap.size with h1 | h1
    · exact h1
    · simp [World.cell?, Array.getElem?_eq_none h1] at h)
  simp only [World.cell?] at h ⊢
  rw [hh]
  exact h

theorem ownB {w w' : World} {base n size : Nat} {e : TypeId} {v : Value} {xs : List Value} (h : w.ownsRow base e size v n xs) (hb : Below w.heap.size w w') : w'.ownsRow base e size v n xs :=
  h.kept (row := none) ⟨hb.os, hb.tape, hb.output, hb.size, fun k hk _ => hb.block k hk⟩ (by cases v.ownBlock <;> simp)

theorem setCell_blk {w : World} {g : Nat} {R : Array Value} {T : TypeId} {f : Nat × Nat} (h : w.heap[g]? = some (.cells R T f)) (j : Nat) (v : Value) : (w.setCell ⟨g, j, none⟩ v).heap[g]? = some (.cells (R.setIfInBounds j v) T f) := by
  simp [World.setCell, Array.getElem?_modify, h]

theorem setCell_far {w : World} {g k : Nat} (j : Nat) (v : Value) (h : k ≠ g) : (w.setCell ⟨g, j, none⟩ v).heap[k]? = w.heap[k]? :=
  Below.heap_setCell _ _ _ _ (fun e => h (by simpa using e))

/-- a record stored into a box of its own -/
theorem box13 (W : World) (g : Nat) (T : TypeId) (a0 a1 a2 a3 a4 a5 a6 a7 a8 a9 a10 a11 a12 v0 v1 v2 v3 v4 v5 v6 v7 v8 v9 v10 v11 v12 : Value) (hb : W.heap[g]? = some (.cells #[a0, a1, a2, a3, a4, a5, a6, a7, a8, a9, a10, a11, a12] T (0, 0))) :
    ∃ W9, (((((((((((((W.setCell ⟨g, 0, none⟩ v0).setCell ⟨g, 1, none⟩ v1).setCell ⟨g, 2, none⟩ v2).setCell ⟨g, 3, none⟩ v3).setCell ⟨g, 4, none⟩ v4).setCell ⟨g, 5, none⟩ v5).setCell ⟨g, 6, none⟩ v6).setCell ⟨g, 7, none⟩ v7).setCell ⟨g, 8, none⟩ v8).setCell ⟨g, 9, none⟩ v9).setCell ⟨g, 10, none⟩ v10).setCell ⟨g, 11, none⟩ v11).setCell ⟨g, 12, none⟩ v12) = W9 ∧ W9.heap[g]? = some (.cells #[v0, v1, v2, v3, v4, v5, v6, v7, v8, v9, v10, v11, v12] T (0, 0)) ∧ (∀ k, k ≠ g → W9.heap[k]? = W.heap[k]?) ∧ (∀ B w, B ≤ g → Below B w W → Below B w W9) := by
  refine ⟨_, rfl, ?_, ?_, ?_⟩
  · have h := setCell_blk (setCell_blk (setCell_blk (setCell_blk (setCell_blk (setCell_blk (setCell_blk (setCell_blk (setCell_blk (setCell_blk (setCell_blk (setCell_blk (setCell_blk (hb) 0 v0) 1 v1) 2 v2) 3 v3) 4 v4) 5 v5) 6 v6) 7 v7) 8 v8) 9 v9) 10 v10) 11 v11) 12 v12
    simpa using h
  · intro k hk
    rw [setCell_far _ _ hk, setCell_far _ _ hk, setCell_far _ _ hk, setCell_far _ _ hk, setCell_far _ _ hk, setCell_far _ _ hk, setCell_far _ _ hk, setCell_far _ _ hk, setCell_far _ _ hk, setCell_far _ _ hk, setCell_far _ _ hk, setCell_far _ _ hk, setCell_far _ _ hk]
  · intro B w hB h
    exact (((((((((((((h.setCell (p := ⟨g, 0, none⟩) hB _).setCell (p := ⟨g, 1, none⟩) hB _).setCell (p := ⟨g, 2, none⟩) hB _).setCell (p := ⟨g, 3, none⟩) hB _).setCell (p := ⟨g, 4, none⟩) hB _).setCell (p := ⟨g, 5, none⟩) hB _).setCell (p := ⟨g, 6, none⟩) hB _).setCell (p := ⟨g, 7, none⟩) hB _).setCell (p := ⟨g, 8, none⟩) hB _).setCell (p := ⟨g, 9, none⟩) hB _).setCell (p := ⟨g, 10, none⟩) hB _).setCell (p := ⟨g, 11, none⟩) hB _).setCell (p := ⟨g, 12, none⟩) hB _)

theorem liesFar {w w' : World} {a : Option Addr} {xs : List Value} {g : Nat} (h : Lies w a xs) (hk : ∀ k, k ≠ g → w'.heap[k]? = w.heap[k]?) (hne : ∀ b o, a = some ⟨b, o, none⟩ → b ≠ g) : Lies w' a xs := by
  intro k u hu
  obtain ⟨b, off, e, hc⟩ := h k u hu
  refine ⟨b, off, e, ?_⟩
  rw [← hc]
  simp only [World.cell?, hk b (hne b off e)]

theorem own_gen {w : World} {B n es : Nat} {e : TypeId} {v : Value} {xs : List Value} (h : w.ownsRow B e es v n xs) : ∃ a cap, v = .slice a n cap ∧ Lies w a xs ∧ n ≤ cap := by
  rcases h.2 with ⟨rfl, h0⟩ | ⟨g, cap, cur, rfl, hg, hc, h1, h2, h3, htake⟩
  · subst h0
    have hx := h.1
    obtain rfl : xs = [] := List.eq_nil_of_length_eq_zero (by simpa using hx)
    exact ⟨none, 0, rfl, Lies.nil _ _, Nat.le_refl _⟩
  · refine ⟨some ⟨g, 0, none⟩, cap, rfl, ?_, h1⟩
    have h4 := Lies.of_block hc
    intro k u hu
    refine h4 k u ?_
    have hk : k < n * es := by
      have hx := h.1
      rcases Nat.lt_or_ge k xs.length with h5 | h5
      · omega
      · rw [List.getElem?_eq_none h5] at hu; cases hu
    rw [← htake, List.getElem?_take, if_pos hk] at hu
    exact hu

theorem lies_gen {w : World} {ad : Addr} {xs : List Value} (h : Lies w (some ad) xs) : ∀ j u, xs[j]? = some u → w.cell? (ad.add j) = some u := by
  intro j u hu
  obtain ⟨b, o, e, hc⟩ := h j u hu
  simp at e
  subst e
  simpa [Addr.add_lit] using hc

theorem heap_set {w : World} {b o : Nat} {c : Array Value} {t : TypeId} {f : Nat × Nat} {v : Value} (h : w.heap[b]? = some (.cells c t f)) : (w.setCell ⟨b, o, none⟩ v).heap[b]? = some (.cells (c.setIfInBounds o v) t f) := by
  exact setCell_blk h o v

theorem bs_oneK (l : List UInt8) : ∀ v ∈ bs l, v.oneCell' = true := by
  intro v hv
  obtain ⟨x, _, rfl⟩ := List.mem_map.1 hv
  rfl

theorem setFarK {w : World} {g k : Nat} (j : Nat) (v : Value) (h : k ≠ g) : (w.setCell ⟨g, j, none⟩ v).heap[k]? = w.heap[k]? :=
  Below.heap_setCell _ _ _ _ (fun e => h (by simpa using e))

theorem liesG {w w' : World} {a : Option Addr} {xs : List Value} {g : Nat} (h : Lies w a xs) (hk : ∀ k, k ≠ g → w'.heap[k]? = w.heap[k]?) (hne : ∀ b o, a = some ⟨b, o, none⟩ → b ≠ g) : Lies w' a xs := by
  intro k u hu
  obtain ⟨b, off, e, hc⟩ := h k u hu
  refine ⟨b, off, e, ?_⟩
  rw [← hc]
  simp only [World.cell?, hk b (hne b off e)]

theorem box2K (W : World) (g : Nat) (T : TypeId) (a0 a1 v0 v1 : Value) (hb : W.heap[g]? = some (.cells #[a0, a1] T (0, 0))) :
    ∃ W', (W.setCell ⟨g, 0, none⟩ v0).setCell ⟨g, 1, none⟩ v1 = W' ∧ W'.heap[g]? = some (.cells #[v0, v1] T (0, 0)) ∧ (∀ k, k ≠ g → W'.heap[k]? = W.heap[k]?) ∧ ∀ B w, B ≤ g → Below B w W → Below B w W' := by
  refine ⟨_, rfl, ?_, ?_, ?_⟩
  · have h := heap_set (o := 1) (v := v1) (heap_set (o := 0) (v := v0) hb)
    simpa using h
  · intro k hk
    rw [setFarK _ _ hk, setFarK _ _ hk]
  · intro B w hB h
    exact ((h.setCell (p := ⟨g, 0, none⟩) hB _).setCell (p := ⟨g, 1, none⟩) hB _)

theorem setSecond (W : World) (g : Nat) (T : TypeId) (a b v : Value) (h : W.heap[g]? = some (.cells #[a, b] T (0, 0))) :
    ∃ W', W.setCell ⟨g, 1, none⟩ v = W' ∧ W'.heap[g]? = some (.cells #[a, v] T (0, 0)) ∧ (∀ k, k ≠ g → W'.heap[k]? = W.heap[k]?) ∧ ∀ B w, B ≤ g → Below B w W → Below B w W' := by
  refine ⟨_, rfl, ?_, ?_, ?_⟩
  · have := heap_set (o := 1) (v := v) h
    simpa using this
  · intro k hk
    exact setFarK _ _ hk
  · intro B w hB hb
    exact hb.setCell (p := ⟨g, 1, none⟩) hB _

end Go.Proofs.YtpmgmddicbpgjaaDoor

/-
  Chapter 7: two heads that are compared whole: HdEq.
-/
namespace Go.Proofs.YtpmgmddicbpgjaaDoor
end Go.Proofs.YtpmgmddicbpgjaaDoor

/-
  Chapter 7, the reference: CheckRec, where the kind is none.
-/
namespace Go.Proofs.YtpmgmddicbpgjaaDoor
open Go.RowKit Go.Maps
set_option linter.unusedVariables false
set_option linter.unusedSimpArgs false

end Go.Proofs.YtpmgmddicbpgjaaDoor

/-
  Chapter 7, the reference: CheckRec, where a part is set that the kind does not use.
-/
namespace Go.Proofs.YtpmgmddicbpgjaaDoor
open Go.RowKit Go.Maps
set_option linter.unusedVariables false
set_option linter.unusedSimpArgs false

/-- is every part that the kind (with these letters) does not use left empty? -/
def formB (u : List UInt8) (p n y : Int) (h : Hd) (id : Int) (dn cn : Nat) : Bool :=
  (hasB u 80 || p == 0) && (hasB u 78 || n == 0) && (hasB u 84 || y == 0) && (hasB u 72 || decide (h = ⟨0, 0, 0, 0, 0, 0⟩)) && (hasB u 83 || (id == 0 && (dn : Int) == 0)) && (hasB u 67 || (cn : Int) == 0)

end Go.Proofs.YtpmgmddicbpgjaaDoor
