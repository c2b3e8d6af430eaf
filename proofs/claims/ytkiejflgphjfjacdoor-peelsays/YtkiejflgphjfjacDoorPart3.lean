import Derived.Test.YtkiejflgphjfjacDoorPart2
import Derived.Test.YtkiejflgphjfjacDoorPart1
import Derived.BigQuiet
import Derived.Deep.RegionWith
import Derived.Shelf.Abstract
/-
  Rows that are true of given blocks; how many rows in order there are; and what is known where there are as many as blocks. Nothing of any program.
-/
namespace Go.Proofs.YtkiejflgphjfjacDoor
set_option linter.unusedVariables false
set_option linter.unusedSimpArgs false

/-- the sum of the blocks that are in it, of the first n -/
def sumAt (B : Nat → Nat → UInt8) (h : Nat → Bool) : Nat → Nat → UInt8
  | 0, _ => 0
  | n + 1, i => sumAt B h n i ^^^ (if h n = true then B n i else 0)

theorem sumAt_add (B : Nat → Nat → UInt8) (a b : V) (n i : Nat) : sumAt B (a.add b).has n i = sumAt B a.has n i ^^^ sumAt B b.has n i := by
  induction n with
  | zero => simp [sumAt]
  | succ n ih =>
    simp only [sumAt, ih, V.has_add]
    have hx : ∀ x y c : UInt8, ∀ p q : Bool, (x ^^^ y ^^^ if (p != q) = true then c else 0) = (x ^^^ if p = true then c else 0) ^^^ (y ^^^ if q = true then c else 0) := by
      intro x y c p q
      have e : c ^^^ (y ^^^ c) = y := by rw [UInt8.xor_comm y c, ← UInt8.xor_assoc, UInt8.xor_self, UInt8.zero_xor]
      cases p <;> cases q <;> simp [UInt8.xor_assoc, e, UInt8.xor_comm c y]
    exact hx _ _ _ _ _

theorem sumAt_none {B : Nat → Nat → UInt8} {h : Nat → Bool} (hn : ∀ k, h k = false) (n i : Nat) : sumAt B h n i = 0 := by
  induction n with
  | zero => rfl
  | succ n ih => simp [sumAt, ih, hn]

theorem sumAt_one {B : Nat → Nat → UInt8} {h : Nat → Bool} {k : Nat} (hk : ∀ j, h j = decide (j = k)) (n i : Nat) : sumAt B h n i = if k < n then B k i else 0 := by
  induction n with
  | zero => simp [sumAt]
  | succ n ih =>
    simp only [sumAt, ih, hk]
    by_cases e : n = k
    · subst e; simp
    · rcases Nat.lt_or_gt_of_ne e with hl | hl
      · simp [e, show ¬ k < n by omega, show ¬ k < n + 1 by omega]
      · simp [e, show k < n by omega, show k < n + 1 by omega]

/-- the row is true of these blocks -/
def Tr (n : Nat) (B : Nat → Nat → UInt8) (v : V) : Prop := ∀ i, v.dat i = sumAt B v.has n i

theorem Tr.o (n : Nat) (B : Nat → Nat → UInt8) : Tr n B V.o := fun i => (sumAt_none (fun _ => rfl) n i).symm

theorem Tr.add {n : Nat} {B : Nat → Nat → UInt8} {a b : V} (ha : Tr n B a) (hb : Tr n B b) : Tr n B (a.add b) := fun i => by
  rw [sumAt_add, ← ha i, ← hb i]; rfl

theorem Span.tr {n : Nat} {B : Nat → Nat → UInt8} {S : List V} (h : ∀ r ∈ S, Tr n B r) {v : V} (hv : Span S v) : Tr n B v := by
  induction hv with
  | o => exact Tr.o n B
  | step hr _ ih => exact ih.add (h _ hr)

/-- a true row with nothing in it is nought: so none is torn -/
theorem Tr.none {n : Nat} {B : Nat → Nat → UInt8} {v : V} (h : Tr n B v) (hn : None' v) : v = V.o :=
  V.ext' (fun k => by rw [hn k]; rfl) (fun i => by rw [h i, sumAt_none hn]; rfl)

/-- a true row of one block alone is that block -/
theorem Tr.one {n : Nat} {B : Nat → Nat → UInt8} {v : V} (h : Tr n B v) {k : Nat} (hk : k < n) (ho : ∀ j, v.has j = decide (j = k)) (i : Nat) : v.dat i = B k i := by
  rw [h i, sumAt_one ho, if_pos hk]

theorem rising_le {l : List Nat} : ∀ {lo n : Nat}, l.Pairwise (· < ·) → (∀ x ∈ l, lo ≤ x ∧ x < n) → l.length ≤ n - lo := by
  induction l with
  | nil => intro lo n _ _; simp
  | cons a l ih =>
    intro lo n hp hb
    have ha := hb a List.mem_cons_self
    have hp := List.pairwise_cons.1 hp
    have := ih (lo := a + 1) (n := n) hp.2 fun x hx => ⟨hp.1 x hx, (hb x (List.mem_cons_of_mem _ hx)).2⟩
    simp only [List.length_cons]
    omega

theorem rising_ge {l : List Nat} : ∀ {lo n : Nat}, l.Pairwise (· < ·) → (∀ x ∈ l, lo ≤ x) → (∀ k, lo ≤ k → k < n → k ∈ l) → n - lo ≤ l.length := by
  induction l with
  | nil =>
    intro lo n _ _ h
    rcases Nat.lt_or_ge lo n with hl | hl
    · exact absurd (h lo (Nat.le_refl _) hl) (by simp)
    · simp; omega
  | cons a l ih =>
    intro lo n hp hb h
    have hp := List.pairwise_cons.1 hp
    rcases Nat.lt_or_ge lo n with hl | hl
    · have ha : a = lo := by
        have h1 := hb a List.mem_cons_self
        rcases List.mem_cons.1 (h lo (Nat.le_refl _) hl) with e | hm
        · exact e.symm
        · have := hp.1 lo hm; omega
      subst ha
      have := ih (lo := a + 1) (n := n) hp.2 (fun x hx => hp.1 x hx) fun k h1 h2 => by
        rcases List.mem_cons.1 (h k (by omega) h2) with e | hm
        · omega
        · exact hm
      simp only [List.length_cons]
      omega
    · simp only [List.length_cons]; omega

/-- the first blocks rise -/
theorem Sys.rising {n : Nat} {A : List V} (h : Sys A) (hn : ∀ r ∈ A, Of n r) : (A.map (fst n)).Pairwise (· < ·) := by
  rw [List.pairwise_map]
  refine h.pair.imp_of_mem fun ha hb hab => ?_
  obtain ⟨j, k, l1, l2, hlt, _⟩ := hab
  rw [fst_lead l1 ((hn _ ha).lead l1), fst_lead l2 ((hn _ hb).lead l2)]
  exact hlt

theorem Sys.fst_lt {n : Nat} {A : List V} (h : Sys A) (hn : ∀ r ∈ A, Of n r) {r : V} (hr : r ∈ A) : fst n r < n := by
  obtain ⟨k, hk⟩ := h.lead r hr
  have := (hn r hr).lead hk
  rw [fst_lead hk this]
  exact this

/-- there are never more rows than blocks -/
theorem Sys.few {n : Nat} {A : List V} (h : Sys A) (hn : ∀ r ∈ A, Of n r) : A.length ≤ n := by
  have := rising_le (lo := 0) (n := n) (h.rising hn) fun x hx => by
    obtain ⟨r, hr, rfl⟩ := List.mem_map.1 hx
    exact ⟨Nat.zero_le _, h.fst_lt hn hr⟩
  simpa using this

/-- where each block is the first one of something spanned there are as many rows as blocks -/
theorem Sys.full {n : Nat} {A : List V} (h : Sys A) (hn : ∀ r ∈ A, Of n r) (hk : ∀ k, k < n → ∃ v, Span A v ∧ Lead v k) : A.length = n := by
  have h1 := h.few hn
  have h2 := rising_ge (lo := 0) (n := n) (h.rising hn) (fun x _ => Nat.zero_le _) fun k _ hlt => by
    obtain ⟨v, hv, hl⟩ := hk k hlt
    obtain ⟨r, hr, hl'⟩ := h.first hv hl
    exact List.mem_map.2 ⟨r, hr, fst_lead hl' hlt⟩
  simp at h2
  omega

theorem rising_at {l : List Nat} : ∀ {lo n : Nat}, l.Pairwise (· < ·) → (∀ x ∈ l, lo ≤ x ∧ x < n) → l.length = n - lo → ∀ k (hk : k < l.length), l[k] = lo + k := by
  induction l with
  | nil => intro lo n _ _ _ k hk; simp at hk
  | cons a l ih =>
    intro lo n hp hb hl k hk
    have ha := hb a List.mem_cons_self
    have hp := List.pairwise_cons.1 hp
    have hb' : ∀ x ∈ l, a + 1 ≤ x ∧ x < n := fun x hx => ⟨hp.1 x hx, (hb x (List.mem_cons_of_mem _ hx)).2⟩
    have hle := rising_le hp.2 hb'
    simp only [List.length_cons] at hl
    have e : a = lo := by omega
    subst e
    cases k with
    | zero => simp
    | succ k =>
      have := ih hp.2 hb' (by omega) k (by simpa using hk)
      simp only [List.getElem_cons_succ, this]
      omega

/-- as many rows as blocks: each is one block, alone -/
theorem Sys.units {n : Nat} {A : List V} (h : Sys A) (hn : ∀ r ∈ A, Of n r) (hl : A.length = n) : ∀ k (hk : k < A.length), ∀ j, (A[k]).has j = decide (j = k) := by
  have hat : ∀ k (hk : k < A.length), Lead A[k] k := fun k hk => by
    have h1 := rising_at (lo := 0) (n := n) (h.rising hn) (fun x hx => by
      obtain ⟨r, hr, rfl⟩ := List.mem_map.1 hx
      exact ⟨Nat.zero_le _, h.fst_lt hn hr⟩) (by simpa using hl) k (by simpa using hk)
    simp only [List.getElem_map, Nat.zero_add] at h1
    have := lead_fst (h.fst_lt hn (List.getElem_mem hk))
    rwa [h1] at this
  intro k hk j
  by_cases e : j = k
  · subst e
    rw [decide_eq_true rfl]
    exact (hat j hk).1
  · rw [decide_eq_false e]
    rcases Nat.lt_or_ge j n with hj | hj
    · cases hh : (A[k]).has j
      · rfl
      · have := h.apart (List.getElem_mem (show j < A.length by omega)) (List.getElem_mem hk) (hat j (by omega)) hh
        have h2 := hat k hk
        rw [this] at h2
        exact absurd ((hat j (by omega)).one h2) e
    · exact hn _ (List.getElem_mem hk) j hj

end Go.Proofs.YtkiejflgphjfjacDoor

/-
  Chapter 5, pure: rows told by lists; what Check answers; right rows are rows in order.
-/
namespace Go.Proofs.YtkiejflgphjfjacDoor
open Go.RowKit
set_option linter.unusedVariables false
set_option linter.unusedSimpArgs false

/-- a row, told by its lists -/
abbrev LRow := List Bool × List UInt8

def LRow.v (r : LRow) : V := ⟨fun k => r.1.getD k false, fun t => r.2.getD t 0⟩

/-- of n blocks, k bytes a block -/
def Fits (n k : Nat) (r : LRow) : Prop := r.1.length = n ∧ r.2.length = k

theorem LRow.v_has {r : LRow} {k : Nat} (hk : k < r.1.length) : (LRow.v r).has k = r.1[k] := by
  show r.1.getD k false = _
  rw [List.getD_eq_getElem?_getD, List.getElem?_eq_getElem hk]
  rfl

theorem LRow.v_of {n k : Nat} {r : LRow} (h : Fits n k r) : Of n (LRow.v r) := fun j hj => by
  show r.1.getD j false = false
  rw [List.getD_eq_getElem?_getD, List.getElem?_eq_none (by rw [h.1]; exact hj)]
  rfl

/-- rows of one size that say the same are the same -/
theorem LRow.v_inj {n k : Nat} {r s : LRow} (hr : Fits n k r) (hs : Fits n k s) (h : LRow.v r = LRow.v s) : r = s := by
  obtain ⟨a, b⟩ := r
  obtain ⟨c, d⟩ := s
  obtain ⟨h1, h2⟩ := hr
  obtain ⟨h3, h4⟩ := hs
  simp only at h1 h2 h3 h4
  have e1 : a = c := by
    apply List.ext_getElem (by omega)
    intro i p q
    have := congrArg (fun v => v.has i) h
    simp only [LRow.v, List.getD_eq_getElem?_getD, List.getElem?_eq_getElem p, List.getElem?_eq_getElem q, Option.getD_some] at this
    exact this
  have e2 : b = d := by
    apply List.ext_getElem (by omega)
    intro i p q
    have := congrArg (fun v => v.dat i) h
    simp only [LRow.v, List.getD_eq_getElem?_getD, List.getElem?_eq_getElem p, List.getElem?_eq_getElem q, Option.getD_some] at this
    exact this
  rw [e1, e2]

theorem rows_inj {n k : Nat} : ∀ {A B : List LRow}, (∀ r ∈ A, Fits n k r) → (∀ r ∈ B, Fits n k r) → A.map LRow.v = B.map LRow.v → A = B := by
  intro A
  induction A with
  | nil => intro B _ _ h; cases B with
    | nil => rfl
    | cons b B => simp at h
  | cons a A ih =>
    intro B hA hB h
    cases B with
    | nil => simp at h
    | cons b B =>
      simp only [List.map_cons, List.cons.injEq] at h
      rw [LRow.v_inj (hA a List.mem_cons_self) (hB b List.mem_cons_self) h.1, ih (fun r hr => hA r (List.mem_cons_of_mem _ hr)) (fun r hr => hB r (List.mem_cons_of_mem _ hr)) h.2]

theorem firstI_range (h : List Bool) : firstI h = -1 ∨ ∃ k : Nat, firstI h = k ∧ k < h.length ∧ h.getD k false = true ∧ ∀ j, j < k → h.getD j false = false := by
  by_cases hl : h.findIdx id < h.length
  · refine .inr ⟨h.findIdx id, by rw [firstI, if_pos hl], hl, ?_, ?_⟩
    · have := List.findIdx_getElem (w := hl)
      rw [List.getD_eq_getElem?_getD, List.getElem?_eq_getElem hl]
      simpa using this
    · intro j hj
      have := List.not_of_lt_findIdx (p := id) (xs := h) (i := j) hj
      rw [List.getD_eq_getElem?_getD, List.getElem?_eq_getElem (by omega)]
      simpa using this
  · exact .inl (by rw [firstI, if_neg hl])

/-- the first block of a row that has one -/
theorem firstI_lead {r : LRow} {k : Nat} : firstI r.1 = k ↔ Lead (LRow.v r) k := by
  constructor
  · intro h
    rcases firstI_range r.1 with e | ⟨m, e, h1, h2, h3⟩
    · omega
    · have : m = k := by omega
      subst this
      exact ⟨h2, h3⟩
  · intro h
    rcases firstI_range r.1 with e | ⟨m, e, h1, h2, h3⟩
    · exfalso
      have hk : k < r.1.length := by
        apply Decidable.byContradiction
        intro hn
        have := h.1
        rw [show (LRow.v r).has k = r.1.getD k false from rfl, List.getD_eq_getElem?_getD, List.getElem?_eq_none (by omega)] at this
        simp at this
      have hl : r.1.findIdx id < r.1.length := List.findIdx_lt_length_of_exists ⟨r.1[k], List.getElem_mem hk, by
        have := h.1
        rw [LRow.v_has hk] at this
        simpa using this⟩
      rw [firstI, if_pos hl] at e
      omega
    · rw [e]
      have : Lead (LRow.v r) m := ⟨h2, h3⟩
      rw [this.one h]

theorem firstI_no {r : LRow} : firstI r.1 = -1 ↔ None' (LRow.v r) := by
  constructor
  · intro h j
    rcases Bool.eq_false_or_eq_true ((LRow.v r).has j) with e | e
    · obtain ⟨m, _, hm⟩ := Lead.of_has e
      have := firstI_lead.2 hm
      omega
    · exact e
  · intro h
    rcases firstI_range r.1 with e | ⟨m, e, h1, h2, h3⟩
    · exact e
    · have := h m
      rw [show (LRow.v r).has m = r.1.getD m false from rfl, h2] at this
      simp at this

/-- the row at place i is as it must be -/
def RowOk (B K : Int) (A : List LRow) (i : Nat) : Prop :=
  (A[i]?.getD ([], [])).1.length = B ∧ (A[i]?.getD ([], [])).2.length = K ∧ 0 ≤ firstI (A[i]?.getD ([], [])).1 ∧ (0 < i → firstI (A[i - 1]?.getD ([], [])).1 < firstI (A[i]?.getD ([], [])).1) ∧
  ∀ j, j < A.length → j ≠ i → (A[j]?.getD ([], [])).1.getD (firstI (A[i]?.getD ([], [])).1).toNat false = false

open Classical in
/-- what Check answers -/
noncomputable def chkSys (B K : Int) (A : List LRow) : Int :=
  if ¬ (1 ≤ B ∧ B ≤ 24 ∧ 1 ≤ K ∧ K ≤ 16) then 3 else if B < A.length then 2 else if ∀ i, i < A.length → RowOk B K A i then 0 else 4

theorem chkSys_range {B K : Int} {A : List LRow} (h : ¬ (1 ≤ B ∧ B ≤ 24 ∧ 1 ≤ K ∧ K ≤ 16)) : chkSys B K A = 3 := if_pos h
theorem chkSys_many {B K : Int} {A : List LRow} (h : 1 ≤ B ∧ B ≤ 24 ∧ 1 ≤ K ∧ K ≤ 16) (h2 : B < A.length) : chkSys B K A = 2 := by rw [chkSys, if_neg (by simpa using h), if_pos h2]
theorem chkSys_form {B K : Int} {A : List LRow} (h : 1 ≤ B ∧ B ≤ 24 ∧ 1 ≤ K ∧ K ≤ 16) (h2 : ¬ B < A.length) {i : Nat} (hi : i < A.length) (h3 : ¬ RowOk B K A i) : chkSys B K A = 4 := by
  rw [chkSys, if_neg (by simpa using h), if_neg h2, if_neg fun hh => h3 (hh i hi)]
theorem chkSys_ok {B K : Int} {A : List LRow} (h : 1 ≤ B ∧ B ≤ 24 ∧ 1 ≤ K ∧ K ≤ 16) (h2 : ¬ B < A.length) (h3 : ∀ i, i < A.length → RowOk B K A i) : chkSys B K A = 0 := by
  rw [chkSys, if_neg (by simpa using h), if_neg h2, if_pos h3]

/-- a right system -/
structure Right (n k : Nat) (A : List LRow) : Prop where
  n1 : 1 ≤ n
  n2 : n ≤ 24
  k1 : 1 ≤ k
  k2 : k ≤ 16
  fits : ∀ r ∈ A, Fits n k r
  sys : Sys (A.map LRow.v)

theorem Right.of {n k : Nat} {A : List LRow} (h : Right n k A) : ∀ v ∈ A.map LRow.v, Of n v := by
  intro v hv
  obtain ⟨r, hr, rfl⟩ := List.mem_map.1 hv
  exact LRow.v_of (h.fits r hr)

theorem Right.few {n k : Nat} {A : List LRow} (h : Right n k A) : A.length ≤ n := by
  have := h.sys.few h.of
  simpa using this

theorem getD_get {A : List LRow} {i : Nat} (hi : i < A.length) : A[i]?.getD ([], []) = A[i] := by rw [List.getElem?_eq_getElem hi]; rfl

/-- what Check takes is right -/
theorem right_of_chk {B K : Int} {A : List LRow} (h : chkSys B K A = 0) : ∃ n k : Nat, B = n ∧ K = k ∧ Right n k A := by
  unfold chkSys at h
  split at h
  · omega
  · rename_i h1
    have h1 : 1 ≤ B ∧ B ≤ 24 ∧ 1 ≤ K ∧ K ≤ 16 := Decidable.not_not.1 h1
    split at h
    · omega
    · split at h
      · rename_i h2 h3
        refine ⟨B.toNat, K.toNat, by omega, by omega, by omega, by omega, by omega, by omega, ?_, ?_⟩
        · intro r hr
          obtain ⟨i, hi, rfl⟩ := List.getElem_of_mem hr
          obtain ⟨a, b, _⟩ := h3 i hi
          rw [getD_get hi] at a b
          exact ⟨by omega, by omega⟩
        · have lead : ∀ i (hi : i < A.length), Lead (LRow.v A[i]) (firstI A[i].1).toNat := by
            intro i hi
            obtain ⟨_, _, c, _⟩ := h3 i hi
            rw [getD_get hi] at c
            exact firstI_lead.1 (by omega)
          have step : ∀ d i (hi : i + d + 1 < A.length), firstI (A[i]'(by omega)).1 < firstI (A[i + d + 1]).1 := by
            intro d
            induction d with
            | zero =>
              intro i hi
              obtain ⟨_, _, _, e, _⟩ := h3 (i + 0 + 1) hi
              have := e (by omega)
              rw [getD_get hi, getD_get (show i + 0 + 1 - 1 < A.length by omega)] at this
              exact this
            | succ d ih =>
              intro i hi
              have a := ih i (by omega)
              obtain ⟨_, _, _, e, _⟩ := h3 (i + (d + 1) + 1) hi
              have := e (by omega)
              rw [getD_get hi, getD_get (show i + (d + 1) + 1 - 1 < A.length by omega)] at this
              exact Int.lt_trans a this
          refine ⟨?_, ?_⟩
          · intro r hr
            obtain ⟨s, hs, rfl⟩ := List.mem_map.1 hr
            obtain ⟨i, hi, rfl⟩ := List.getElem_of_mem hs
            exact ⟨_, lead i hi⟩
          · rw [List.pairwise_map, List.pairwise_iff_getElem]
            intro i j hi hj hij
            obtain ⟨d, rfl⟩ : ∃ d, j = i + d + 1 := ⟨j - i - 1, by omega⟩
            refine ⟨_, _, lead i hi, lead (i + d + 1) hj, ?_, ?_⟩
            · have := step d i hj
              obtain ⟨_, _, c, _⟩ := h3 i hi
              rw [getD_get hi] at c
              omega
            · obtain ⟨_, _, _, _, e⟩ := h3 (i + d + 1) hj
              have := e i hi (by omega)
              rw [getD_get hi, getD_get hj] at this
              exact this
      · omega

/-- .. and what is right is taken -/
theorem chk_of_right {n k : Nat} {A : List LRow} (h : Right n k A) : chkSys n k A = 0 := by
  have hA := h.few
  have n1 := h.n1
  have n2 := h.n2
  have k1 := h.k1
  have k2 := h.k2
  refine chkSys_ok ⟨by omega, by omega, by omega, by omega⟩ (by omega) ?_
  intro i hi
  have lead : ∀ j (hj : j < A.length), ∃ m : Nat, Lead (LRow.v A[j]) m ∧ firstI A[j].1 = m := by
    intro j hj
    obtain ⟨m, hm⟩ := h.sys.lead _ (List.mem_map_of_mem (List.getElem_mem hj))
    exact ⟨m, hm, firstI_lead.2 hm⟩
  obtain ⟨m, hm, em⟩ := lead i hi
  have hf := h.fits _ (List.getElem_mem hi)
  unfold RowOk
  rw [getD_get hi]
  refine ⟨by rw [hf.1], by rw [hf.2], by omega, ?_, ?_⟩
  · intro h0
    rw [getD_get (show i - 1 < A.length by omega)]
    have hp := List.pairwise_iff_getElem.1 h.sys.pair (i - 1) i (by simp; omega) (by simpa using hi) (by omega)
    simp only [List.getElem_map] at hp
    obtain ⟨a, b, ha, hb, hab, _⟩ := hp
    have e1 := firstI_lead.2 ha
    have e2 := firstI_lead.2 hb
    omega
  · intro j hj hne
    rw [getD_get hj, em]
    simp only [Int.toNat_natCast]
    rcases Bool.eq_false_or_eq_true ((LRow.v A[j]).has m) with e | e
    · exfalso
      have hs := h.sys.apart (List.mem_map_of_mem (List.getElem_mem hi)) (List.mem_map_of_mem (List.getElem_mem hj)) hm e
      rcases Nat.lt_or_gt_of_ne hne with hlt | hlt
      · have hp := List.pairwise_iff_getElem.1 h.sys.pair j i (by simpa using hj) (by simpa using hi) hlt
        simp only [List.getElem_map] at hp
        rw [hs] at hp
        exact hp.ne
      · have hp := List.pairwise_iff_getElem.1 h.sys.pair i j (by simpa using hi) (by simpa using hj) hlt
        simp only [List.getElem_map] at hp
        rw [hs] at hp
        exact hp.ne
    · exact e

end Go.Proofs.YtkiejflgphjfjacDoor

/-
  Worlds above a world: all that was there is as it was. A region that draws its order, whose operations only read, and whose callees turn nothing that was there: one walk.
-/
namespace Go.Proofs.YtkiejflgphjfjacDoor
open Go.RowKit
set_option linter.unusedVariables false

/-- the worlds above a world -/
def Above (w : World) : Type := { w' : World // Below w.heap.size w w' }

def Above.w {w : World} (u : Above w) : World := u.1
theorem Above.below {w : World} (u : Above w) : Below w.heap.size w u.w := u.2

def Above.start (w : World) : Above w := ⟨w, Below.refl _ _⟩

/-- on behind a call -/
def Above.next {w : World} (u : Above w) {w' : World} (h : Below u.w.heap.size u.w w') : Above w := ⟨w', u.2.trans (h.mono u.2.size)⟩

theorem Above.cell {w : World} {b o : Nat} {v : Value} (h : w.cell? ⟨b, o, none⟩ = some v) (u : Above w) : u.w.cell? ⟨b, o, none⟩ = some v := by
  have := World.block_lt_of_cell? w _ h
  exact ((bcell u.2).1 b o this).trans h

theorem wp_region_above {P : Program} {id : Nat} {Q : Exit → Act → World → Prop} {a : Act} {w : World} {l : List Oper} (hm : P.follows .mixedOrders = true) (hB : Region.lexB .any l.toArray = true)
    (h : wpQuiet P l.toArray (fun w' => ∃ u : Above w, w' = u.w) (fun a' => ∀ w', (∃ u : Above w, w' = u.w) → Q .normal a' w') l a) : (Code.region id l.toArray true).wp P Q a w :=
  wp_region_quiet (C := fun w' => ∃ u : Above w, w' = u.w) hm hB ⟨⟨w.drew, (Below.refl _ _).drew⟩, rfl⟩ (by simpa using h)

/-- a contract of a callee that turns nothing that was there -/
theorem Calls.above {P : Program} {f : FuncId} {args : Array Value} {w : World} {u : Above w} {v : Value} (h : Calls P f args u.w fun e w' => e = .returned v ∧ Below u.w.heap.size u.w w') :
    Calls P f args u.w fun e w'' => e = .returned v ∧ ∃ u' : Above w, w'' = u'.w :=
  h.mono fun _ w' ⟨he, hb⟩ => ⟨he, u.next hb, rfl⟩

end Go.Proofs.YtkiejflgphjfjacDoor

/-
  The reference's CheckSystem: its contract.
-/
namespace Go.Proofs.YtkiejflgphjfjacDoor
open Go.RowKit
set_option linter.unusedVariables false
set_option linter.unusedSimpArgs false

/-- a system's box -/
def Box3 (w : World) (g : Nat) (x y z : Value) : Prop := w.cell? ⟨g, 0, none⟩ = some x ∧ w.cell? ⟨g, 1, none⟩ = some y ∧ w.cell? ⟨g, 2, none⟩ = some z

theorem Box3.mk (w : World) (x y z : Value) (t : TypeId) : Box3 (w.alloc (.cells #[x, y, z] t)) w.heap.size x y z := by
  have h := Lies.alloc_new w #[x, y, z] t
  exact ⟨h.at (k := 0) rfl, h.at (k := 1) rfl, h.at (k := 2) rfl⟩

theorem Box3.below {w w1 : World} {g : Nat} {x y z : Value} (h : Box3 w g x y z) (hb : Below w.heap.size w w1) : Box3 w1 g x y z := ⟨cellC h.1 hb, cellC h.2.1 hb, cellC h.2.2 hb⟩

theorem Box2.mk (w : World) (x y : Value) (t : TypeId) : (w.alloc (.cells #[x, y] t)).cell? ⟨w.heap.size, 0, none⟩ = some x ∧ (w.alloc (.cells #[x, y] t)).cell? ⟨w.heap.size, 1, none⟩ = some y := by
  have h := Lies.alloc_new w #[x, y] t
  exact ⟨h.at (k := 0) rfl, h.at (k := 1) rfl⟩

/-- all but the other rows -/
def RowPre (n k : Nat) (A : List LRow) (q F : Nat) : Prop :=
  (A[q]?.getD ([], [])).1.length = n ∧ (A[q]?.getD ([], [])).2.length = k ∧ firstI (A[q]?.getD ([], [])).1 = F ∧ (0 < q → firstI (A[q - 1]?.getD ([], [])).1 < firstI (A[q]?.getD ([], [])).1)

theorem RowPre.ok {n k q F : Nat} {A : List LRow} (h : RowPre n k A q F) (ho : ∀ j, j < A.length → j ≠ q → (A[j]?.getD ([], [])).1.getD F false = false) : RowOk n k A q := by
  obtain ⟨a, b, c, d⟩ := h
  refine ⟨by rw [a], by rw [b], by omega, d, ?_⟩
  intro j hj hne
  rw [c]
  exact ho j hj hne

theorem RowPre.not {n k q F j : Nat} {A : List LRow} (h : RowPre n k A q F) (hj : j < A.length) (hne : j ≠ q) (ht : (A[j]?.getD ([], [])).1.getD F false = true) : ¬ RowOk n k A q := by
  obtain ⟨a, b, c, d⟩ := h
  intro ho
  have := ho.2.2.2.2 j hj hne
  rw [c] at this
  simp only [Int.toNat_natCast] at this
  rw [ht] at this
  simp at this

end Go.Proofs.YtkiejflgphjfjacDoor

/-
  The reference's KnownOf: its contract.
-/
namespace Go.Proofs.YtkiejflgphjfjacDoor
open Go.RowKit
set_option linter.unusedVariables false
set_option linter.unusedSimpArgs false

/-- one row more is looked at -/
def kSet (l : List (List UInt8)) (r : LRow) : List (List UInt8) := if r.1.count true = 1 then l.set (firstI r.1).toNat r.2 else l

/-- what is known of each block; nothing: [] -/
def knownL (n : Nat) (A : List LRow) : List (List UInt8) := A.foldl kSet (List.replicate n [])

theorem kSet_length (l : List (List UInt8)) (r : LRow) : (kSet l r).length = l.length := by
  unfold kSet
  split <;> simp

theorem knownL_snoc (n : Nat) (A : List LRow) (r : LRow) : knownL n (A ++ [r]) = kSet (knownL n A) r := by simp [knownL, List.foldl_append]

theorem knownL_length (n : Nat) (A : List LRow) : (knownL n A).length = n := by
  unfold knownL
  have h : ∀ (A : List LRow) (l : List (List UInt8)), (A.foldl kSet l).length = l.length := by
    intro A
    induction A with
    | nil => intro l; rfl
    | cons r A ih => intro l; rw [List.foldl_cons, ih, kSet_length]
  rw [h, List.length_replicate]

def nilB : Blk := ⟨none, 0, []⟩

/-- the list in the making -/
def KInv (w wr : World) (g n : Nat) (A : List LRow) : Prop :=
  Below w.heap.size w wr ∧ w.heap.size ≤ g ∧ g < wr.heap.size ∧ ∃ bl : List Blk, bl.length = n ∧ wr.rowIs g 36 n (fun j => (bl[j]?.getD nilB).val) ∧ AllIn w bl ∧ bl.map Blk.l = knownL n A

theorem rowIs_below {w w' : World} {g n : Nat} {t : TypeId} {f : Nat → Value} (h : w.rowIs g t n f) (hb : Below w.heap.size w w') (hg : g < w.heap.size) : w'.rowIs g t n f := by
  unfold World.rowIs at *
  rw [hb.block g hg]
  exact h

theorem KInv.start {w W0 : World} {n : Nat} (hb : Below w.heap.size w W0) : KInv w (W0.alloc (.cells (madeCells #[Value.slice none 0 0] n) 36)) W0.heap.size n [] := by
  refine ⟨hb.alloc hb.size _, hb.size, by simp, List.replicate n nilB, by simp, ?_, ?_, ?_⟩
  · refine (World.rowIs_made W0 _ n _).congr fun j hj => ?_
    simp [hj, nilB, Blk.val]
  · intro b hb'
    obtain rfl := List.eq_of_mem_replicate hb'
    exact ⟨Lies.nil _ _, by simp [nilB, maxLen]⟩
  · simp [knownL, nilB]

theorem KInv.below {w wr w' : World} {g n : Nat} {A : List LRow} (h : KInv w wr g n A) (hb : Below wr.heap.size wr w') : KInv w w' g n A := by
  obtain ⟨h1, h2, h3, bl, h4, h5, h6, h7⟩ := h
  exact ⟨h1.trans (hb.mono h1.size), h2, by have := hb.size; omega, bl, h4, rowIs_below h5 hb h3, h6, h7⟩

/-- a row that has one block alone -/
theorem KInv.put {w wr : World} {g n F : Nat} {A : List LRow} {r : MRow} (h : KInv w wr g n A) (hc : r.h.count true = 1) (hF : firstI r.h = F) (hr : RowIn w r) :
    KInv w (wr.setCell ⟨g, F, none⟩ r.dv) g n (A ++ [r.says]) := by
  obtain ⟨h1, h2, h3, bl, h4, h5, h6, h7⟩ := h
  have hb : Below w.heap.size w (wr.setCell ⟨g, F, none⟩ r.dv) := h1.setCell (p := ⟨g, F, none⟩) (by simpa using h2) _
  refine ⟨hb, h2, by simpa using h3, bl.set F ⟨r.da, r.dc, r.d⟩, by simpa using h4, ?_, ?_, ?_⟩
  · refine (h5.set F _).congr fun j hj => ?_
    by_cases e : j = F
    · subst e
      simp [h4, hj, Blk.val, MRow.dv]
    · rw [if_neg e, List.getElem?_set_ne (Ne.symm e)]
  · intro b hb'
    rcases List.mem_or_eq_of_mem_set hb' with hm | rfl
    · exact h6 b hm
    · exact ⟨hr.2.1, hr.2.2.2⟩
  · rw [knownL_snoc, kSet, show r.says.1.count true = 1 from hc, if_pos rfl, List.map_set, h7]
    show _ = (knownL n A).set (firstI r.h).toNat r.d
    rw [hF]
    simp

theorem KInv.pass {w wr : World} {g n : Nat} {A : List LRow} {r : MRow} (h : KInv w wr g n A) (hc : ¬ r.h.count true = 1) : KInv w wr g n (A ++ [r.says]) := by
  obtain ⟨h1, h2, h3, bl, h4, h5, h6, h7⟩ := h
  refine ⟨h1, h2, h3, bl, h4, h5, h6, ?_⟩
  rw [knownL_snoc, kSet, if_neg (by exact hc), h7]

theorem count_first {h : List Bool} (hc : h.count true = 1) : ∃ F : Nat, firstI h = F ∧ F < h.length := by
  rcases firstI_range h with e | ⟨k, e, hk, _⟩
  · exfalso
    have := (firstI_no (r := (h, []))).1 e
    have h0 : h.count true = 0 := List.count_eq_zero.2 fun hm => by
      obtain ⟨i, hi, hx⟩ := List.getElem_of_mem hm
      have h2 := this i
      rw [LRow.v_has hi] at h2
      simp only at h2
      rw [hx] at h2
      simp at h2
    omega
  · exact ⟨k, e, hk⟩

set_option maxRecDepth 4000 in
set_option maxHeartbeats 1000000 in
theorem knownOf_any (s : MSys) (n k : Nat) (w : World) (hs : SysIn w s) (hB : s.B = n) (hK : s.K = k) (hn1 : 1 ≤ n) (hn : n ≤ 24) (hm : s.rows.length ≤ 24) (hf : ∀ r ∈ s.rows, r.h.length = n) :
    Calls Tryd.prog 41 #[.agg #[.int .i64 s.B, .int .i64 s.K, .slice s.ra s.rows.length s.rc]] w fun e w' =>
      ∃ (g : Nat) (bl : List Blk), e = .returned (.slice (some ⟨g, 0, none⟩) n n) ∧ Lies w' (some ⟨g, 0, none⟩) (bl.map Blk.val) ∧ AllIn w' bl ∧ bl.map Blk.l = knownL n (s.rows.map MRow.says) ∧ w.heap.size ≤ g ∧ Below w.heap.size w w' := by
  obtain ⟨B, K, ra, rc, rows⟩ := s
  simp only at *
  subst hB hK
  obtain ⟨hl, hr, _⟩ := hs
  simp only at hl hr
  have hb : Below w.heap.size w (w.alloc (.cells #[.int .i64 n, .int .i64 k, .slice ra rows.length rc] 53)) := (Below.refl _ _).alloc (Nat.le_refl _) _
  obtain ⟨x0, x1, x2⟩ := Box3.mk w (.int .i64 n) (.int .i64 k) (.slice ra rows.length rc) 53
  have H0 := Shut.mk (KInv.start (n := n) hb)
  have x2' := cellC x2 ((Below.refl _ _).alloc (Nat.le_refl _) (.cells (madeCells #[Value.slice none 0 0] n) 36))
  have hmk := run_make_row' (P := Tryd.prog) 48 36 (.slice none 0 0) 24 Tryd.underlying48 infoBlk rfl .i64 .i64 n (by omega) (by omega)
  go_enter Tryd.func41, Tryd.ntmps41
  go_wp2
  obtain ⟨W1, hW1⟩ : ∃ W1, (w.alloc (.cells #[.int .i64 n, .int .i64 k, .slice ra rows.length rc] 53)).alloc (.cells (madeCells #[Value.slice none 0 0] n) 36) = W1 := ⟨_, rfl⟩
  rw [hW1] at H0 ⊢
  have e0 : (w.alloc (.cells #[.int .i64 n, .int .i64 k, .slice ra rows.length rc] 53)).heap.size = w.heap.size + 1 := by simp
  rw [e0] at H0
  clear hW1 e0 hmk x0 x1 x2 x2' hb
  go_loopw [15] (fun m wr => ∃ q : Nat, q ≤ rows.length ∧ m = .int .i64 q ∧ Shut (KInv w wr (w.heap.size + 1) n ((rows.map MRow.says).take q))) (fun m _ => rows.length - (intOf m).toNat)
  case atStart => exact ⟨0, Nat.zero_le _, rfl, ⟨by simpa using H0.out⟩⟩
  case round =>
    clear H0
    obtain ⟨q, hq, rfl, HI⟩ := hrel
    by_cases hlt : q < rows.length
    · obtain ⟨ab, ao, rfl⟩ := hl.some (k := 2 * q) (by rw [rowCells_length]; omega)
      obtain ⟨a0, a1⟩ := row_at (hl.below HI.out.1 (Nat.le_refl _)) hlt
      have rA := hr _ (List.getElem_mem hlt)
      have HT : Shut ((rows.map MRow.says).take (q + 1) = (rows.map MRow.says).take q ++ [rows[q].says]) := ⟨by rw [List.take_succ_eq_append_getElem (by simpa using hlt)]; simp⟩
      have HLn := Shut.mk (hf _ (List.getElem_mem hlt))
      generalize rows[q]'hlt = R at *
      have hla := rA.1.below HI.out.1 (Nat.le_refl _)
      obtain ⟨ha, hc, rh, da, dc, rd⟩ := R
      simp only [MRow.hv, MRow.dv] at a0 a1 HLn hla
      have hrn : rh.length ≤ 24 := by rw [HLn.out]; exact hn
      have bd : Below wr.heap.size wr (wr.alloc (.cells #[.slice ha rh.length hc, .slice da rd.length dc] 62)) := (Below.refl _ _).alloc (Nat.le_refl _) _
      obtain ⟨v0, v1⟩ := Box2.mk wr (.slice ha rh.length hc) (.slice da rd.length dc) 62
      have HI2 := Shut.mk (HI.out.below bd)
      replace hla := hla.below bd (Nat.le_refl _)
      clear HI bd
      go_wp2
      obtain ⟨w2, hw2⟩ : ∃ w2, wr.alloc (.cells #[.slice ha rh.length hc, .slice da rd.length dc] 62) = w2 := ⟨_, rfl⟩
      obtain ⟨gr, hgr⟩ : ∃ gr, wr.heap.size = gr := ⟨_, rfl⟩
      rw [hw2, hgr] at v0 v1 ⊢
      rw [hw2] at HI2 hla
      clear hw2 hgr a0 a1
      go_loopw [6, 22] (fun c m wq => ∃ p : Nat, p ≤ rh.length ∧ m = .int .i64 p ∧ c = .int .i64 ((rh.take p).count true : Nat) ∧ wq = w2) (fun _ m _ => rh.length - (intOf m).toNat)
      case atStart => exact ⟨0, Nat.zero_le _, rfl, rfl, rfl⟩
      case round =>
        obtain ⟨p, hp, rfl, rfl, rfl⟩ := hrel
        by_cases hlp : p < rh.length
        · obtain ⟨b1, o1, rfl⟩ := hla.some (k := p) (by simpa using hlp)
          have c1 : wr.cell? ⟨b1, o1 + p, none⟩ = some (.bool rh[p]) := hla.at (by simp [hlp])
          have HC1 : Shut ((rh.take (p + 1)).count true = (rh.take p).count true + (if rh[p] = true then 1 else 0)) := ⟨by rw [List.take_succ_eq_append_getElem hlp, List.count_append]; cases rh[p] <;> rfl⟩
          have hcl : (rh.take p).count true ≤ 24 := Nat.le_trans List.count_le_length (by simp; omega)
          generalize (rh.take p).count true = cn at *
          clear hla
          cases hx : rh[p]
          · rw [hx] at c1 HC1
            clear hx
            go_wp2
            exact ⟨⟨p + 1, by omega, by go_num, by rw [HC1.out]; rfl, trivial⟩, by simp [intOf]; omega⟩
          · rw [hx] at c1 HC1
            clear hx
            go_wp2
            exact ⟨⟨p + 1, by omega, by go_num, by rw [HC1.out]; go_num, trivial⟩, by simp [intOf]; omega⟩
        · have HCE : Shut ((rh.take p).count true = rh.count true) := ⟨by rw [List.take_of_length_le (by omega)]⟩
          rw [HCE.out]
          clear HCE hla
          by_cases hc1 : rh.count true = 1
          · have e1 : ((rh.count true : Int) == 1) = true := by simp [hc1]
            obtain ⟨F, hF0, hF1⟩ := count_first hc1
            have HFF := Shut.mk hF0
            have hFn : F < n := by rw [← HLn.out]; exact hF1
            have hCF : Calls Tryd.prog 70 #[.agg #[.slice ha rh.length hc, .slice da rd.length dc]] wr.drew fun e w' => e = .returned (.int .i64 F) ∧ Below wr.drew.heap.size wr.drew w' := by
              have h := firstOf_any ⟨ha, hc, rh, da, dc, rd⟩ wr.drew ((rA.below HI2.out.1).below ((Below.refl _ _).drew))
              rw [show firstI rh = F from HFF.out] at h
              exact h
            have HI3 : Shut (∀ w', Below wr.drew.heap.size wr.drew w' → KInv w w' (w.heap.size + 1) n ((rows.map MRow.says).take q)) := ⟨fun w' hb => HI2.out.below (((Below.refl _ _).drew).trans hb)⟩
            have HI4 : Shut (∀ w', Below wr.drew.heap.size wr.drew w' → KInv w (w'.setCell ⟨w.heap.size + 1, F, none⟩ (.slice da rd.length dc)) (w.heap.size + 1) n ((rows.map MRow.says).take (q + 1))) := ⟨fun w' hb => by
              rw [HT.out]
              exact (HI2.out.below (((Below.refl _ _).drew).trans hb)).put (r := ⟨ha, hc, rh, da, dc, rd⟩) hc1 hF0 rA⟩
            clear hc1 hF0 hF1 rA HI2 hl hr hq
            go_upto_region 13 with fail
            generalize rh.count true = cn at *
            go_region_with (first | (go_at_call 70; refine hCF.mono ?_; rintro e w4 ⟨rfl, hb4⟩; have v1' := cellC (w := wr.drew) v1 hb4; have hI4 := HI3.out w4 hb4; obtain ⟨j1, j2, j3, bl, j4, j5, j6, j7⟩ := hI4; have j8 := j5.cell hFn; have j9 := j5.frozen F))
            all_goals
              have R := Shut.mk (HI4.out w4 hb4)
              clear v0 v1 hCF HI3 HI4 v1' j1 j2 j3 j4 j5 j6 j7 j8 j9 hb4 hlp hp
              generalize w4.setCell ⟨w.heap.size + 1, F, none⟩ (.slice da rd.length dc) = w5 at *
              go_wp2
              go_roundw
              case rel => exact ⟨q + 1, by omega, by go_num, R⟩
              case measure =>
                show rows.length - (intOf (.int .i64 ((q : Int) + 1))).toNat < rows.length - (intOf (.int .i64 (q : Int))).toNat
                simp [intOf]
                omega
          · have HI3 : Shut (KInv w wr (w.heap.size + 1) n ((rows.map MRow.says).take (q + 1))) := ⟨by rw [HT.out]; exact HI2.out.pass hc1⟩
            have e1 : ((rh.count true : Int) == 1) = false := by simp; omega
            generalize rh.count true = cn at *
            clear HI2 hl hr rA HT hc1
            go_wp2
            go_roundw
            case rel => exact ⟨q + 1, by omega, by go_num, HI3⟩
            case measure =>
              show rows.length - (intOf (.int .i64 ((q : Int) + 1))).toNat < rows.length - (intOf (.int .i64 (q : Int))).toNat
              simp [intOf]
              omega
    · have HE : Shut (KInv w wr (w.heap.size + 1) n (rows.map MRow.says)) := ⟨by have h := HI.out; rwa [List.take_of_length_le (by simp; omega)] at h⟩
      clear HI hl hr
      go_wp2
      go_ret
      obtain ⟨h1, h2, h3, bl, h4, h5, h6, h7⟩ := HE.out
      refine ⟨w.heap.size + 1, bl, rfl, ?_, h6.below h1, h7, h2, h1⟩
      have := rowIs_lies h5
      have e : (List.range n).map (fun j => (bl[j]?.getD nilB).val) = bl.map Blk.val := by
        apply List.ext_getElem
        · simp [h4]
        · intro i p1 p2
          simp at p2
          simp [p2]
      rwa [e] at this

end Go.Proofs.YtkiejflgphjfjacDoor

/-
  The reference's AddRow: the search for a row that has a block.
-/
namespace Go.Proofs.YtkiejflgphjfjacDoor
open Go.RowKit
set_option linter.unusedVariables false
set_option linter.unusedSimpArgs false

theorem addRow1 (r : MRow) (c n gk : Nat) (w : World) (hr : RowIn w r) (hn : r.h.length = n) (hc : c < n) (hn2 : n ≤ 24) (hk : w.cell? ⟨gk, 0, none⟩ = some (.int .i64 c)) :
    Calls Tryd.prog 67 #[.agg #[r.hv, r.dv], .pointer (some ⟨gk, 0, none⟩)] w fun e w' => e = .returned (.bool ((LRow.v r.says).has c)) ∧ Below w.heap.size w w' := by
  obtain ⟨h1, h2, h3, h4⟩ := hr
  have hcl : c < r.h.length := by omega
  obtain ⟨b1, o1, hx⟩ := h1.some (k := c) (by simpa using hcl)
  have e : (LRow.v r.says).has c = r.h[c] := LRow.v_has hcl
  rw [e]
  clear e
  obtain ⟨ha, hc', h, da, dc, d⟩ := r
  simp only [MRow.hv, MRow.dv] at *
  subst hx
  have c1 := h1.at (k := c) (u := .bool h[c]) (by simp [hcl])
  have hb : Below w.heap.size w (w.alloc (.cells #[.slice (some ⟨b1, o1, none⟩) h.length hc', .slice da d.length dc] 62)) := (Below.refl _ _).alloc (Nat.le_refl _) _
  obtain ⟨v0, v1⟩ := Box2.mk w (.slice (some ⟨b1, o1, none⟩) h.length hc') (.slice da d.length dc) 62
  have c1' := cellC c1 hb
  have hk' := cellC hk hb
  generalize h[c] = x at *
  have h24 : h.length ≤ 24 := by omega
  clear h1 h2 h3 h4 c1 hk hn hc hn2
  go_enter Tryd.func67, Tryd.ntmps67
  go_wp2
  go_ret
  exact ⟨rfl, hb⟩

theorem entersAdd1 : ∀ args w, (callFunc 67 args).run Tryd.prog w = .ok (.enter 67 args) w := enters_of Tryd.func67 (by kernel_rfl) rfl

/-- where the first row that has this block is; none: -1 -/
def idx (c : Nat) (l : List MRow) : Int := if l.findIdx (fun r => (LRow.v r.says).has c) < l.length then (l.findIdx (fun r => (LRow.v r.says).has c) : Nat) else -1

theorem idx_at {c : Nat} {l : List MRow} {k : Nat} (hk : k < l.length) (ht : (LRow.v l[k].says).has c = true) (hn : ∀ j (hj : j < k), (LRow.v (l[j]'(by omega)).says).has c = false) : idx c l = k := by
  have e : l.findIdx (fun r => (LRow.v r.says).has c) = k := by
    rw [List.findIdx_eq hk]
    exact ⟨ht, fun j hj => by simpa using hn j hj⟩
  rw [idx, e, if_pos hk]

theorem idx_none {c : Nat} {l : List MRow} (hn : ∀ j (hj : j < l.length), (LRow.v l[j].says).has c = false) : idx c l = -1 := by
  rw [idx, if_neg]
  intro hl
  have := List.findIdx_getElem (w := hl)
  rw [hn _ hl] at this
  simp at this

set_option maxHeartbeats 400000 in
theorem indexRow_any (a : Option Addr) (cap : Nat) (l : List MRow) (c n gk : Nat) (w : World) (hl : l.length ≤ 25) (ha : Lies w a (rowCells l)) (hall : ∀ r ∈ l, RowIn w r) (hn : ∀ r ∈ l, r.h.length = n) (hc : c < n) (hn2 : n ≤ 24) (hk : w.cell? ⟨gk, 0, none⟩ = some (.int .i64 c)) :
    Calls Tryd.prog 66 #[.slice a l.length cap, .func (.func 67) #[] #[.pointer (some ⟨gk, 0, none⟩)]] w fun e w' => e = .returned (.int .i64 (idx c l)) ∧ Below w.heap.size w w' := by
  have eg := entersAdd1
  go_enter Tryd.func66, Tryd.ntmps66
  go_wp2
  go_loopw [8] (fun i wr => ∃ q : Nat, q ≤ l.length ∧ i = .int .i64 q ∧ Below w.heap.size w wr ∧ Shut (∀ j (hj : j < l.length), j < q → (LRow.v l[j].says).has c = false)) (fun i _ => l.length - (intOf i).toNat)
  case atStart => exact ⟨0, Nat.zero_le _, rfl, Below.refl _ _, ⟨fun j _ hj => by omega⟩⟩
  case round =>
    obtain ⟨q, hq, rfl, hb, HN⟩ := hrel
    by_cases hlt : q < l.length
    · obtain ⟨b1, o1, rfl⟩ := ha.some (k := 2 * q) (by rw [rowCells_length]; omega)
      obtain ⟨c0, c1⟩ := row_at (ha.below hb (Nat.le_refl _)) hlt
      have hA := addRow1 l[q] c n gk wr ((hall _ (List.getElem_mem hlt)).below hb) (hn _ (List.getElem_mem hlt)) hc hn2 (cellC hk hb)
      have HT : Shut ((LRow.v l[q].says).has c = true → idx c l = q) := ⟨fun h => idx_at hlt h fun j hj => HN.out j (by omega) hj⟩
      have HF : Shut ((LRow.v l[q].says).has c = false → ∀ j (hj : j < l.length), j < q + 1 → (LRow.v l[j].says).has c = false) := ⟨fun h j hj hjq => by
        by_cases e : j = q
        · subst e; exact h
        · exact HN.out j hj (by omega)⟩
      generalize (LRow.v l[q].says).has c = x at *
      generalize l[q]'hlt = R at *
      obtain ⟨rha, rhc, rh, rda, rdc, rd⟩ := R
      simp only [MRow.hv, MRow.dv] at *
      clear ha hall hn HN
      go_wp2_with fail
      refine hA.mono ?_
      rintro e w2 ⟨rfl, hb2⟩
      have hb3 := hb.trans (hb2.mono hb.size)
      clear hA c0 c1 hb2
      cases x
      · have HN2 := Shut.mk (HF.out rfl)
        clear HF HT
        go_wp2
        go_roundw
        case rel => exact ⟨q + 1, by omega, by go_num, hb3, HN2⟩
        case measure => simp [intOf]; omega
      · have HX := Shut.mk (HT.out rfl)
        clear HF HT
        go_wp2
        go_ret
        exact ⟨ret_int HX.out.symm, hb3⟩
    · have HX : Shut (idx c l = -1) := ⟨idx_none fun j hj => HN.out j hj (by omega)⟩
      clear HN ha
      go_wp2
      go_ret
      exact ⟨ret_int HX.out.symm, hb⟩

end Go.Proofs.YtkiejflgphjfjacDoor
