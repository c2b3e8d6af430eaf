/-
  Rows that are true of given blocks; how many rows in order there are; and what is known where there are as many as blocks. Nothing of any program.
-/
import Derived.Test.YtcpnbkgkknlocaaDoorSolvePure3
namespace Go.Proofs.YtcpnbkgkknlocaaDoor
set_option linter.unusedVariables false
set_option linter.unusedSimpArgs false

/-- the sum of the blocks that are in it, of the first n -/
def sumAt (B : Nat → Nat → UInt8) (h : Nat → Bool) : Nat → Nat → UInt8
  | 0, _ => 0
  | n + 1, i => sumAt B h n i ^^^ (if h n = true then B n i else 0)

theorem sumAt_add (B : Nat → Nat → UInt8) (a b : V) (n i : Nat) : sumAt B (a.add b).has n i = sumAt B a.has n i ^^^ sumAt B b.has n i := by
  induction n with
  | zero => simp [sumAt]
  | succ n ih =>
    simp only [sumAt, ih, V.has_add]
    have hx : ∀ x y c : UInt8, ∀ p q : Bool, (x ^^^ y ^^^ if (p != q) = true then c else 0) = (x ^^^ if p = true then c else 0) ^^^ (y ^^^ if q = true then c else 0) := by
      intro x y c p q
      have e : c ^^^ (y ^^^ c) = y := by rw [UInt8.xor_comm y c, ← UInt8.xor_assoc, UInt8.xor_self, UInt8.zero_xor]
      cases p <;> cases q <;> simp [UInt8.xor_assoc, e, UInt8.xor_comm c y]
    exact hx _ _ _ _ _

theorem sumAt_none {B : Nat → Nat → UInt8} {h : Nat → Bool} (hn : ∀ k, h k = false) (n i : Nat) : sumAt B h n i = 0 := by
  induction n with
  | zero => rfl
  | succ n ih => simp [sumAt, ih, hn]

theorem sumAt_one {B : Nat → Nat → UInt8} {h : Nat → Bool} {k : Nat} (hk : ∀ j, h j = decide (j = k)) (n i : Nat) : sumAt B h n i = if k < n then B k i else 0 := by
  induction n with
  | zero => simp [sumAt]
  | succ n ih =>
    simp only [sumAt, ih, hk]
    by_cases e : n = k
    · subst e; simp
    · rcases Nat.lt_or_gt_of_ne e with hl | hl
      · simp [e, show ¬ k < n by omega, show ¬ k < n + 1 by omega]
      · simp [e, show k < n by omega, show k < n + 1 by omega]

/-- the row is true of these blocks -/
def Tr (n : Nat) (B : Nat → Nat → UInt8) (v : V) : Prop := ∀ i, v.dat i = sumAt B v.has n i

theorem Tr.o (n : Nat) (B : Nat → Nat → UInt8) : Tr n B V.o := fun i => (sumAt_none (fun _ => rfl) n i).symm

theorem Tr.add {n : Nat} {B : Nat → Nat → UInt8} {a b : V} (ha : Tr n B a) (hb : Tr n B b) : Tr n B (a.add b) := fun i => by
  rw [sumAt_add, ← ha i, ← hb i]; rfl

theorem Span.tr {n : Nat} {B : Nat → Nat → UInt8} {S : List V} (h : ∀ r ∈ S, Tr n B r) {v : V} (hv : Span S v) : Tr n B v := by
  induction hv with
  | o => exact Tr.o n B
  | step hr _ ih => exact ih.add (h _ hr)

/-- a true row with nothing in it is nought: so none is torn -/
theorem Tr.none {n : Nat} {B : Nat → Nat → UInt8} {v : V} (h : Tr n B v) (hn : None' v) : v = V.o :=
  V.ext' (fun k => by rw [hn k]; rfl) (fun i => by rw [h i, sumAt_none hn]; rfl)

/-- a true row of one block alone is that block -/
theorem Tr.one {n : Nat} {B : Nat → Nat → UInt8} {v : V} (h : Tr n B v) {k : Nat} (hk : k < n) (ho : ∀ j, v.has j = decide (j = k)) (i : Nat) : v.dat i = B k i := by
  rw [h i, sumAt_one ho, if_pos hk]

theorem rising_le {l : List Nat} : ∀ {lo n : Nat}, l.Pairwise (· < ·) → (∀ x ∈ l, lo ≤ x ∧ x < n) → l.length ≤ n - lo := by
  induction l with
  | nil => intro lo n _ _; simp
  | cons a l ih =>
    intro lo n hp hb
    have ha := hb a List.mem_cons_self
    have hp := List.pairwise_cons.1 hp
    have := ih (lo := a + 1) (n := n) hp.2 fun x hx => ⟨hp.1 x hx, (hb x (List.mem_cons_of_mem _ hx)).2⟩
    simp only [List.length_cons]
    omega

theorem rising_ge {l : List Nat} : ∀ {lo n : Nat}, l.Pairwise (· < ·) → (∀ x ∈ l, lo ≤ x) → (∀ k, lo ≤ k → k < n → k ∈ l) → n - lo ≤ l.length := by
  induction l with
  | nil =>
    intro lo n _ _ h
    rcases Nat.lt_or_ge lo n with hl | hl
    · exact absurd (h lo (Nat.le_refl _) hl) (by simp)
    · simp; omega
  | cons a l ih =>
    intro lo n hp hb h
    have hp := List.pairwise_cons.1 hp
    rcases Nat.lt_or_ge lo n with hl | hl
    · have ha : a = lo := by
        have h1 := hb a List.mem_cons_self
        rcases List.mem_cons.1 (h lo (Nat.le_refl _) hl) with e | hm
        · exact e.symm
        · have := hp.1 lo hm; omega
      subst ha
      have := ih (lo := a + 1) (n := n) hp.2 (fun x hx => hp.1 x hx) fun k h1 h2 => by
        rcases List.mem_cons.1 (h k (by omega) h2) with e | hm
        · omega
        · exact hm
      simp only [List.length_cons]
      omega
    · simp only [List.length_cons]; omega

/-- the first blocks rise -/
theorem Sys.rising {n : Nat} {A : List V} (h : Sys A) (hn : ∀ r ∈ A, Of n r) : (A.map (fst n)).Pairwise (· < ·) := by
  rw [List.pairwise_map]
  refine h.pair.imp_of_mem fun ha hb hab => ?_
  obtain ⟨j, k, l1, l2, hlt, _⟩ := hab
  rw [fst_lead l1 ((hn _ ha).lead l1), fst_lead l2 ((hn _ hb).lead l2)]
  exact hlt

theorem Sys.fst_lt {n : Nat} {A : List V} (h : Sys A) (hn : ∀ r ∈ A, Of n r) {r : V} (hr : r ∈ A) : fst n r < n := by
  obtain ⟨k, hk⟩ := h.lead r hr
  have := (hn r hr).lead hk
  rw [fst_lead hk this]
  exact this

/-- there are never more rows than blocks -/
theorem Sys.few {n : Nat} {A : List V} (h : Sys A) (hn : ∀ r ∈ A, Of n r) : A.length ≤ n := by
  have := rising_le (lo := 0) (n := n) (h.rising hn) fun x hx => by
    obtain ⟨r, hr, rfl⟩ := List.mem_map.1 hx
    exact ⟨Nat.zero_le _, h.fst_lt hn hr⟩
  simpa using this

/-- where each block is the first one of something spanned there are as many rows as blocks -/
theorem Sys.full {n : Nat} {A : List V} (h : Sys A) (hn : ∀ r ∈ A, Of n r) (hk : ∀ k, k < n → ∃ v, Span A v ∧ Lead v k) : A.length = n := by
  have h1 := h.few hn
  have h2 := rising_ge (lo := 0) (n := n) (h.rising hn) (fun x _ => Nat.zero_le _) fun k _ hlt => by
    obtain ⟨v, hv, hl⟩ := hk k hlt
    obtain ⟨r, hr, hl'⟩ := h.first hv hl
    exact List.mem_map.2 ⟨r, hr, fst_lead hl' hlt⟩
  simp at h2
  omega

theorem rising_at {l : List Nat} : ∀ {lo n : Nat}, l.Pairwise (· < ·) → (∀ x ∈ l, lo ≤ x ∧ x < n) → l.length = n - lo → ∀ k (hk : k < l.length), l[k] = lo + k := by
  induction l with
  | nil => intro lo n _ _ _ k hk; simp at hk
  | cons a l ih =>
    intro lo n hp hb hl k hk
    have ha := hb a List.mem_cons_self
    have hp := List.pairwise_cons.1 hp
    have hb' : ∀ x ∈ l, a + 1 ≤ x ∧ x < n := fun x hx => ⟨hp.1 x hx, (hb x (List.mem_cons_of_mem _ hx)).2⟩
    have hle := rising_le hp.2 hb'
    simp only [List.length_cons] at hl
    have e : a = lo := by omega
    subst e
    cases k with
    | zero => simp
    | succ k =>
      have := ih hp.2 hb' (by omega) k (by simpa using hk)
      simp only [List.getElem_cons_succ, this]
      omega

/-- as many rows as blocks: each is one block, alone -/
theorem Sys.units {n : Nat} {A : List V} (h : Sys A) (hn : ∀ r ∈ A, Of n r) (hl : A.length = n) : ∀ k (hk : k < A.length), ∀ j, (A[k]).has j = decide (j = k) := by
  have hat : ∀ k (hk : k < A.length), Lead A[k] k := fun k hk => by
    have h1 := rising_at (lo := 0) (n := n) (h.rising hn) (fun x hx => by
      obtain ⟨r, hr, rfl⟩ := List.mem_map.1 hx
      exact ⟨Nat.zero_le _, h.fst_lt hn hr⟩) (by simpa using hl) k (by simpa using hk)
    simp only [List.getElem_map, Nat.zero_add] at h1
    have := lead_fst (h.fst_lt hn (List.getElem_mem hk))
    rwa [h1] at this
  intro k hk j
  by_cases e : j = k
  · subst e
    rw [decide_eq_true rfl]
    exact (hat j hk).1
  · rw [decide_eq_false e]
    rcases Nat.lt_or_ge j n with hj | hj
    · cases hh : (A[k]).has j
      · rfl
      · have := h.apart (List.getElem_mem (show j < A.length by omega)) (List.getElem_mem hk) (hat j (by omega)) hh
        have h2 := hat k hk
        rw [this] at h2
        exact absurd ((hat j (by omega)).one h2) e
    · exact hn _ (List.getElem_mem hk) j hj

end Go.Proofs.YtcpnbkgkknlocaaDoor
