/-
  Rows over two: sums, what they span, rows in order (each has a first block that no other one has), and that what is spanned has one such order alone. Nothing of any program.
-/
import Derived.Test.YtcpnbkgkknlocaaDoorGen
namespace Go.Proofs.YtcpnbkgkknlocaaDoor
set_option linter.unusedVariables false
set_option linter.unusedSimpArgs false

/-- a row: which blocks are in it, and their sum -/
structure V where
  has : Nat → Bool
  dat : Nat → UInt8

theorem V.ext' {a b : V} (h : ∀ k, a.has k = b.has k) (d : ∀ k, a.dat k = b.dat k) : a = b := by
  cases a; cases b
  congr
  · exact funext h
  · exact funext d

def V.o : V := ⟨fun _ => false, fun _ => 0⟩

/-- both rows' sum -/
def V.add (a b : V) : V := ⟨fun k => a.has k != b.has k, fun k => a.dat k ^^^ b.dat k⟩

theorem V.has_add (a b : V) (k : Nat) : (a.add b).has k = (a.has k != b.has k) := rfl
theorem V.has_o (k : Nat) : V.o.has k = false := rfl

theorem V.add_comm (a b : V) : a.add b = b.add a :=
  V.ext' (fun k => by simp only [V.add]; cases a.has k <;> cases b.has k <;> rfl) (fun k => by simp only [V.add]; exact UInt8.xor_comm _ _)

theorem V.add_assoc (a b c : V) : (a.add b).add c = a.add (b.add c) :=
  V.ext' (fun k => by simp only [V.add]; cases a.has k <;> cases b.has k <;> cases c.has k <;> rfl) (fun k => by simp only [V.add]; exact UInt8.xor_assoc _ _ _)

theorem V.add_self (a : V) : a.add a = V.o :=
  V.ext' (fun k => by simp [V.add, V.o]) (fun k => by simp [V.add, V.o])

theorem V.add_o (a : V) : a.add V.o = a :=
  V.ext' (fun k => by simp [V.add, V.o]) (fun k => by simp [V.add, V.o])

theorem V.o_add (a : V) : V.o.add a = a := by rw [V.add_comm, V.add_o]

theorem V.add_add (a b : V) : (a.add b).add b = a := by rw [V.add_assoc, V.add_self, V.add_o]

theorem V.eq_of_add {a b : V} (h : a.add b = V.o) : a = b := by
  have := V.add_add a b
  rw [h, V.o_add] at this
  exact this.symm

/-- what rows make, added -/
inductive Span (S : List V) : V → Prop
  | o : Span S V.o
  | step {r v : V} : r ∈ S → Span S v → Span S (v.add r)

theorem Span.mem {S : List V} {r : V} (h : r ∈ S) : Span S r := by
  have := Span.step h Span.o
  rwa [V.o_add] at this

theorem Span.add {S : List V} {a b : V} (ha : Span S a) (hb : Span S b) : Span S (a.add b) := by
  induction hb with
  | o => rw [V.add_o]; exact ha
  | step h _ ih => rw [← V.add_assoc]; exact .step h ih

theorem Span.sub {S T : List V} (h : ∀ r ∈ S, Span T r) {v : V} (hv : Span S v) : Span T v := by
  induction hv with
  | o => exact .o
  | step hr _ ih => exact ih.add (h _ hr)

theorem Span.mono {S T : List V} (h : ∀ r ∈ S, r ∈ T) {v : V} (hv : Span S v) : Span T v := hv.sub fun r hr => .mem (h r hr)

/-- where all are nought, so is what they span -/
theorem Span.nought {S : List V} {k : Nat} (h : ∀ r ∈ S, r.has k = false) {v : V} (hv : Span S v) : v.has k = false := by
  induction hv with
  | o => rfl
  | step hr _ ih => rw [V.has_add, ih, h _ hr]; rfl

theorem Span.head {r : V} {S : List V} {v : V} (hv : Span (r :: S) v) : Span S v ∨ Span S (v.add r) := by
  induction hv with
  | o => exact .inl .o
  | @step x u hr _ ih =>
    rcases List.mem_cons.1 hr with rfl | hr
    · rcases ih with ih | ih
      · exact .inr (by rw [V.add_add]; exact ih)
      · exact .inl ih
    · rcases ih with ih | ih
      · exact .inl (.step hr ih)
      · refine .inr ?_
        rw [V.add_assoc, V.add_comm x r, ← V.add_assoc]
        exact .step hr ih

/-- a row's first block -/
def Lead (v : V) (k : Nat) : Prop := v.has k = true ∧ ∀ j, j < k → v.has j = false

theorem Lead.one {v : V} {j k : Nat} (h : Lead v j) (h' : Lead v k) : j = k := by
  rcases Nat.lt_trichotomy j k with hl | rfl | hl
  · have := h'.2 j hl; rw [h.1] at this; cases this
  · rfl
  · have := h.2 k hl; rw [h'.1] at this; cases this

theorem Lead.of_has {v : V} : ∀ {k : Nat}, v.has k = true → ∃ j, j ≤ k ∧ Lead v j := by
  intro k
  induction k using Nat.strongRecOn with
  | _ k ih =>
    intro h
    by_cases hj : ∃ j, j < k ∧ v.has j = true
    · obtain ⟨j, hl, hh⟩ := hj
      obtain ⟨i, hi, hL⟩ := ih j hl hh
      exact ⟨i, by omega, hL⟩
    · refine ⟨k, Nat.le_refl _, h, fun j hl => ?_⟩
      cases hh : v.has j
      · rfl
      · exact absurd ⟨j, hl, hh⟩ hj

/-- one row stands ahead of another one, neither has the other's first block -/
def Ahead (a b : V) : Prop := ∃ j k, Lead a j ∧ Lead b k ∧ j < k ∧ a.has k = false

theorem Ahead.not {a b : V} (h : Ahead a b) (h' : Ahead b a) : False := by
  obtain ⟨j, k, l1, l2, hl, _⟩ := h
  obtain ⟨j', k', l1', l2', hl', _⟩ := h'
  have := l1.one l2'
  have := l2.one l1'
  omega

theorem Ahead.ne {a : V} (h : Ahead a a) : False := h.not h

/-- rows in order -/
structure Sys (A : List V) : Prop where
  lead : ∀ r ∈ A, ∃ k, Lead r k
  pair : A.Pairwise Ahead

theorem Sys.nil : Sys [] := ⟨fun r h => by simp at h, .nil⟩

theorem Sys.tail {a : V} {A : List V} (h : Sys (a :: A)) : Sys A := ⟨fun r hr => h.lead r (List.mem_cons_of_mem _ hr), (List.pairwise_cons.1 h.pair).2⟩

theorem Sys.ahead {a : V} {A : List V} (h : Sys (a :: A)) : ∀ r ∈ A, Ahead a r := (List.pairwise_cons.1 h.pair).1

/-- no other row has a row's first block -/
theorem Sys.apart {A : List V} (h : Sys A) {r s : V} (hr : r ∈ A) (hs : s ∈ A) {k : Nat} (hl : Lead r k) (hk : s.has k = true) : s = r := by
  induction A with
  | nil => simp at hr
  | cons a A ih =>
    rcases List.mem_cons.1 hr with rfl | hr'
    · rcases List.mem_cons.1 hs with rfl | hs'
      · rfl
      · obtain ⟨i, j, l1, l2, hlt, hf⟩ := h.ahead s hs'
        have := l1.one hl
        subst this
        rw [l2.2 _ hlt] at hk
        cases hk
    · rcases List.mem_cons.1 hs with rfl | hs'
      · obtain ⟨i, j, l1, l2, hlt, hf⟩ := h.ahead r hr'
        have := l2.one hl
        subst this
        rw [hf] at hk
        cases hk
      · exact ih h.tail hr' hs'

/-- what is spanned and has no first block of theirs is nought -/
theorem Sys.nought {A : List V} (h : Sys A) {v : V} (hv : Span A v) (hz : ∀ r ∈ A, ∀ k, Lead r k → v.has k = false) : v = V.o := by
  induction A with
  | nil =>
    cases hv with
    | o => rfl
    | step hr _ => simp at hr
  | cons a A ih =>
    rcases hv.head with hv' | hv'
    · exact ih h.tail hv' fun r hr => hz r (List.mem_cons_of_mem _ hr)
    · obtain ⟨k, hk⟩ := h.lead a List.mem_cons_self
      have h1 : (v.add a).has k = false := hv'.nought fun r hr => by
        obtain ⟨i, j, l1, l2, hlt, _⟩ := h.ahead r hr
        have := l1.one hk
        subst this
        exact l2.2 _ hlt
      have h2 := hz a List.mem_cons_self k hk
      rw [V.has_add, h2, hk.1] at h1
      cases h1

/-- the first block of what is spanned is one of theirs -/
theorem Sys.first {A : List V} (h : Sys A) {v : V} (hv : Span A v) {k : Nat} (hk : Lead v k) : ∃ r ∈ A, Lead r k := by
  induction A with
  | nil =>
    cases hv with
    | o => cases hk.1
    | step hr _ => simp at hr
  | cons a A ih =>
    rcases hv.head with hv' | hv'
    · obtain ⟨r, hr, hl⟩ := ih h.tail hv'
      exact ⟨r, List.mem_cons_of_mem _ hr, hl⟩
    · obtain ⟨j, hj⟩ := h.lead a List.mem_cons_self
      have hn : ∀ i, i ≤ j → (v.add a).has i = false := fun i hi => hv'.nought fun r hr => by
        obtain ⟨i', j', l1, l2, hlt, _⟩ := h.ahead r hr
        have := l1.one hj
        exact l2.2 _ (by omega)
      have he : ∀ i, i ≤ j → v.has i = a.has i := fun i hi => by
        have := hn i hi
        rw [V.has_add] at this
        simpa using this
      have hvj : Lead v j := ⟨by rw [he j (Nat.le_refl _)]; exact hj.1, fun i hi => by rw [he i (by omega)]; exact hj.2 i hi⟩
      have := hvj.one hk
      subst this
      exact ⟨a, List.mem_cons_self, hj⟩

theorem Sys.sub {A B : List V} (hA : Sys A) (hB : Sys B) (h : ∀ v, Span A v ↔ Span B v) : ∀ a ∈ A, a ∈ B := by
  intro a ha
  obtain ⟨k, hk⟩ := hA.lead a ha
  obtain ⟨b, hb, hbk⟩ := hB.first ((h a).1 (.mem ha)) hk
  have hz : a.add b = V.o := by
    refine hB.nought (((h a).1 (.mem ha)).add (.mem hb)) fun r hr p hp => ?_
    rw [V.has_add]
    by_cases e : p = k
    · subst e; rw [hk.1, hbk.1]; rfl
    · have h1 : b.has p = false := by
        cases hh : b.has p
        · rfl
        · have := hB.apart hr hb hp hh
          subst this
          exact absurd (hp.one hbk) e
      have h2 : a.has p = false := by
        obtain ⟨a', ha', hl'⟩ := hA.first ((h r).2 (.mem hr)) hp
        cases hh : a.has p
        · rfl
        · have := hA.apart ha' ha hl' hh
          subst this
          exact absurd (hl'.one hk) e
      rw [h1, h2]; rfl
  rw [V.eq_of_add hz]
  exact hb

/-- there is one order alone -/
theorem Sys.same {A B : List V} (hA : Sys A) (hB : Sys B) (h1 : ∀ a ∈ A, a ∈ B) (h2 : ∀ b ∈ B, b ∈ A) : A = B := by
  induction A generalizing B with
  | nil =>
    cases B with
    | nil => rfl
    | cons b B => exact absurd (h2 b List.mem_cons_self) (by simp)
  | cons a A ih =>
    cases B with
    | nil => exact absurd (h1 a List.mem_cons_self) (by simp)
    | cons b B =>
      have e : a = b := by
        rcases List.mem_cons.1 (h1 a List.mem_cons_self) with e | h
        · exact e
        · rcases List.mem_cons.1 (h2 b List.mem_cons_self) with e | h'
          · exact e.symm
          · exact ((hB.ahead a h).not (hA.ahead b h')).elim
      subst e
      congr 1
      refine ih hA.tail hB.tail (fun x hx => ?_) (fun x hx => ?_)
      · rcases List.mem_cons.1 (h1 x (List.mem_cons_of_mem _ hx)) with e | h
        · subst e; exact (hA.ahead x hx).ne.elim
        · exact h
      · rcases List.mem_cons.1 (h2 x (List.mem_cons_of_mem _ hx)) with e | h
        · subst e; exact (hB.ahead x hx).ne.elim
        · exact h

theorem Sys.uniq {A B : List V} (hA : Sys A) (hB : Sys B) (h : ∀ v, Span A v ↔ Span B v) : A = B :=
  hA.same hB (hA.sub hB h) (hB.sub hA fun v => (h v).symm)

end Go.Proofs.YtcpnbkgkknlocaaDoor
