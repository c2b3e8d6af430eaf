/-
  Chapter 4's symbols: which bytes they have. Nothing of any program.
-/
import Derived.Test.YtcpnbkgkknlocaaDoorSolvePure4
import Derived.Test.YtcpnbkgkknlocaaDoorCutPure
import Derived.Test.YtcpnbkgkknlocaaDoorPickPure
namespace Go.Proofs.YtcpnbkgkknlocaaDoor
set_option linter.unusedVariables false
set_option linter.unusedSimpArgs false

/-- which numbers are in a list -/
def mask (l : List Nat) (j : Nat) : Bool := decide (j ∈ l)

theorem sumAt_cons {B : Nat → Nat → UInt8} {a n t : Nat} {l : List Nat} (ha : ¬ a ∈ l) (hn : a < n) : sumAt B (mask (a :: l)) n t = B a t ^^^ sumAt B (mask l) n t := by
  have h := sumAt_add B ⟨mask [a], fun _ => 0⟩ ⟨mask l, fun _ => 0⟩ n t
  have e : (V.add ⟨mask [a], fun _ => 0⟩ ⟨mask l, fun _ => 0⟩).has = mask (a :: l) := by
    funext j
    rw [V.has_add]
    simp only [mask]
    by_cases e : j = a
    · subst e; simp [ha]
    · simp [e]
  rw [e] at h
  rw [h]
  congr 1
  show sumAt B (mask [a]) n t = _
  rw [sumAt_one (k := a) (fun j => by simp [mask]), if_pos hn]

theorem sumAt_congr {B B' : Nat → Nat → UInt8} {h : Nat → Bool} {n t : Nat} (e : ∀ j, j < n → B j t = B' j t) : sumAt B h n t = sumAt B' h n t := by
  induction n with
  | zero => rfl
  | succ n ih => rw [sumAt, sumAt, ih (fun j hj => e j (by omega)), e n (by omega)]

theorem sumAt_mask {B : Nat → Nat → UInt8} {h h' : Nat → Bool} {n t : Nat} (e : ∀ j, j < n → h j = h' j) : sumAt B h n t = sumAt B h' n t := by
  induction n with
  | zero => rfl
  | succ n ih => rw [sumAt, sumAt, ih (fun j hj => e j (by omega)), e n (by omega)]

theorem getD_of {l : List UInt8} {t : Nat} (h : t < l.length) : l.getD t 0 = l[t] := by simp [List.getD, h]

theorem xorl_getD {a b : List UInt8} {t : Nat} (h : b.length = a.length) : (xorl a b).getD t 0 = a.getD t 0 ^^^ b.getD t 0 := by
  unfold xorl
  simp only [List.getD, List.getElem?_zipWith]
  by_cases ht : t < a.length
  · simp [ht, h]
  · simp [show a.length ≤ t by omega, show b.length ≤ t by omega]

/-- blocks added one by one, by their numbers -/
theorem sumTo_at {k n : Nat} {f : Nat → List UInt8} (hf : ∀ j, (f j).length = k) (t : Nat) : ∀ (l : List Nat) (acc : List UInt8), acc.length = k → l.Nodup → (∀ j ∈ l, j < n) →
    (sumTo acc (l.map f)).getD t 0 = acc.getD t 0 ^^^ sumAt (fun j t => (f j).getD t 0) (mask l) n t := by
  intro l
  induction l with
  | nil =>
    intro acc _ _ _
    rw [sumAt_none (fun j => by simp [mask])]
    simp [sumTo]
  | cons a l ih =>
    intro acc ha hd hl
    have hd' := List.nodup_cons.1 hd
    simp only [List.map_cons, sumTo]
    rw [ih (xorl acc (f a)) (by rw [xorl_length _ _ (by rw [ha, hf]), ha]) hd'.2 (fun j hj => hl j (List.mem_cons_of_mem _ hj)), xorl_getD (by rw [ha, hf]),
      sumAt_cons hd'.1 (hl a List.mem_cons_self), UInt8.xor_assoc]

/-- the symbol's bytes: the sum of the blocks that are in it -/
noncomputable def symL (nb k : Nat) (c : List UInt8) (i : Nat) : List UInt8 := (List.range k).map fun t => sumAt (fun j t => (piece k j c).getD t 0) (mask (chosen nb i)) nb t

theorem symL_length (nb k : Nat) (c : List UInt8) (i : Nat) : (symL nb k c i).length = k := by simp [symL]

theorem zeros_getD (k t : Nat) : (zeros k).getD t 0 = 0 := by
  simp only [zeros, List.getD, List.getElem?_replicate]
  split <;> rfl

/-- .. in whatever order they are added -/
theorem symL_sum {nb k i : Nat} {c : List UInt8} {l : List Nat} (hp : l.Perm (chosen nb i)) (h1 : 1 ≤ nb) (hb : nb ≤ 24) : sumTo (zeros k) (l.map fun j => piece k j c) = symL nb k c i := by
  have hlen : (sumTo (zeros k) (l.map fun j => piece k j c)).length = k := sumTo_length _ _ (by simp [zeros]) fun b hb => by
    obtain ⟨j, _, rfl⟩ := List.mem_map.1 hb
    exact piece_length _ _ _
  apply List.ext_getElem
  · rw [hlen, symL_length]
  · intro t h2 h3
    rw [← getD_of h2, ← getD_of h3, sumTo_at (n := nb) (fun j => piece_length k j c) t l (zeros k) (by simp [zeros]) ((hp.nodup_iff).2 (chosen_nodup h1 hb)) (fun j hj => chosen_lt h1 hb j (hp.mem_iff.1 hj)), zeros_getD]
    have ht : t < k := by rw [symL_length] at h3; exact h3
    simp only [symL, List.getD, List.getElem?_map, List.getElem?_range ht, Option.map_some, Option.getD_some, UInt8.zero_xor]
    exact sumAt_mask fun j _ => by simp only [mask, hp.mem_iff]

theorem sumAt_xor (B B' : Nat → Nat → UInt8) (h : Nat → Bool) (n t : Nat) : sumAt (fun j t => B j t ^^^ B' j t) h n t = sumAt B h n t ^^^ sumAt B' h n t := by
  induction n with
  | zero => simp [sumAt]
  | succ n ih =>
    simp only [sumAt, ih]
    have hx : ∀ x y c d : UInt8, ∀ p : Bool, (x ^^^ y ^^^ if p = true then c ^^^ d else 0) = (x ^^^ if p = true then c else 0) ^^^ (y ^^^ if p = true then d else 0) := by
      intro x y c d p
      cases p
      · simp
      · simp only [if_true]
        rw [UInt8.xor_assoc x y, UInt8.xor_assoc x c, ← UInt8.xor_assoc y c d, ← UInt8.xor_assoc c y d, UInt8.xor_comm y c]
    exact hx _ _ _ _ _

theorem piece_getD (k j : Nat) (c : List UInt8) (t : Nat) : (piece k j c).getD t 0 = if t < k then c.getD (j * k + t) 0 else 0 := by
  by_cases h : t < k
  · rw [if_pos h, List.getD, piece_get c h]; rfl
  · rw [if_neg h, List.getD, List.getElem?_eq_none (by rw [piece_length]; omega)]; rfl

theorem symL_xor {nb k i : Nat} {a b : List UInt8} (h : b.length = a.length) : symL nb k (xorl a b) i = xorl (symL nb k a i) (symL nb k b i) := by
  apply List.ext_getElem
  · rw [symL_length, xorl_length _ _ (by rw [symL_length, symL_length]), symL_length]
  · intro t h1 h2
    have ht : t < k := by rw [symL_length] at h1; exact h1
    rw [← getD_of h1, ← getD_of h2, xorl_getD (by rw [symL_length, symL_length])]
    simp only [symL, List.getD, List.getElem?_map, List.getElem?_range ht, Option.map_some, Option.getD_some]
    rw [← sumAt_xor]
    refine sumAt_congr fun j _ => ?_
    have e := fun c => piece_getD k j c t
    simp only [List.getD] at e
    simp only [e, if_pos ht]
    have := xorl_getD (a := a) (b := b) (t := j * k + t) h
    simpa only [List.getD] using this

/-- the numbers below q that are in a list, rising -/
def picksTo (l : List Nat) (q : Nat) : List Nat := (List.range q).filter fun j => decide (j ∈ l)

theorem picksTo_in {l : List Nat} {q : Nat} (h : q ∈ l) : picksTo l (q + 1) = picksTo l q ++ [q] := by simp [picksTo, List.range_succ, h]
theorem picksTo_out {l : List Nat} {q : Nat} (h : ¬ q ∈ l) : picksTo l (q + 1) = picksTo l q := by simp [picksTo, List.range_succ, h]

theorem picksTo_lt {l : List Nat} {q j : Nat} (h : j ∈ picksTo l q) : j < q := by
  have := (List.mem_filter.1 h).1
  simpa using this

theorem picks_perm {l : List Nat} {n : Nat} (hl : ∀ j ∈ l, j < n) (hd : l.Nodup) : (picksTo l n).Perm l := by
  refine (List.perm_ext_iff_of_nodup (List.Pairwise.filter _ List.nodup_range) hd).2 fun j => ?_
  simp only [picksTo, List.mem_filter, List.mem_range, decide_eq_true_eq]
  exact ⟨fun h => h.2, fun h => ⟨hl j h, h⟩⟩

/-- how Make answers -/
def symCode (B K : Int) (c : List UInt8) (id : Int) : Int := if cutCode B K c ≠ 0 then cutCode B K c else if id < 0 ∨ 9999 < id then 3 else 0
noncomputable def symRes (B K : Int) (c : List UInt8) (id : Int) : List UInt8 := if symCode B K c id = 0 then symL (nB B K).toNat K.toNat c id.toNat else []
def symID (B K : Int) (c : List UInt8) (id : Int) : Int := if symCode B K c id = 0 then id else 0

end Go.Proofs.YtcpnbkgkknlocaaDoor
