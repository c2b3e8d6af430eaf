import Derived.Test.YthhhlampphlmgaaPart1
/-
  What lies in memory, of no program: blocks and their cells, carried from world to world.
-/
namespace Go.Proofs.Ythhhlampphlmgaa
open Go.RowKit
set_option linter.unusedVariables false
set_option linter.unusedSimpArgs false

theorem blkB {w w' : World} {b : Nat} {o : Obj} (h : w.heap[b]? = some o) (hb : Below w.heap.size w w') : w'.heap[b]? = some o := by
  refine (hb.block b ?_).trans h
  rcases Nat.lt_or_ge b w.heap.size with h1 | h1
  · exact h1
  · rw [Array.getElem?_eq_none h1] at h; cases h

theorem cellB {w : World} {b : Nat} {c : Array Value} {t : TypeId} {f : Nat × Nat} (h : w.heap[b]? = some (.cells c t f)) (j : Nat) (v : Value) (hv : c[j]? = some v) : w.cell? ⟨b, j, none⟩ = some v := by
  simp only [World.cell?, h]
  simpa using hv

theorem cellW {w w' : World} {b j : Nat} {v : Value} (h : w.cell? ⟨b, j, none⟩ = some v) (hb : Below w.heap.size w w') : w'.cell? ⟨b, j, none⟩ = some v := by
  have hh : w'.heap[b]? = w.heap[b]? := hb.block b (by
    rcases Nat.lt_or_ge b w.heap.size with h1 | h1
    · exact h1
    · simp [World.cell?, Array.getElem?_eq_none h1] at h)
  simp only [World.cell?] at h ⊢
  rw [hh]
  exact h

theorem ownB {w w' : World} {base n size : Nat} {e : TypeId} {v : Value} {xs : List Value} (h : w.ownsRow base e size v n xs) (hb : Below w.heap.size w w') : w'.ownsRow base e size v n xs :=
  h.kept (row := none) ⟨hb.os, hb.tape, hb.output, hb.size, fun k hk _ => hb.block k hk⟩ (by cases v.ownBlock <;> simp)

theorem setCell_blk {w : World} {g : Nat} {R : Array Value} {T : TypeId} {f : Nat × Nat} (h : w.heap[g]? = some (.cells R T f)) (j : Nat) (v : Value) : (w.setCell ⟨g, j, none⟩ v).heap[g]? = some (.cells (R.setIfInBounds j v) T f) := by
  simp [World.setCell, Array.getElem?_modify, h]

theorem setCell_far {w : World} {g k : Nat} (j : Nat) (v : Value) (h : k ≠ g) : (w.setCell ⟨g, j, none⟩ v).heap[k]? = w.heap[k]? :=
  Below.heap_setCell _ _ _ _ (fun e => h (by simpa using e))

/-- a record stored into a box of its own -/
theorem box13 (W : World) (g : Nat) (T : TypeId) (a0 a1 a2 a3 a4 a5 a6 a7 a8 a9 a10 a11 a12 v0 v1 v2 v3 v4 v5 v6 v7 v8 v9 v10 v11 v12 : Value) (hb : W.heap[g]? = some (.cells #[a0, a1, a2, a3, a4, a5, a6, a7, a8, a9, a10, a11, a12] T (0, 0))) :
    ∃ W9, (((((((((((((W.setCell ⟨g, 0, none⟩ v0).setCell ⟨g, 1, none⟩ v1).setCell ⟨g, 2, none⟩ v2).setCell ⟨g, 3, none⟩ v3).setCell ⟨g, 4, none⟩ v4).setCell ⟨g, 5, none⟩ v5).setCell ⟨g, 6, none⟩ v6).setCell ⟨g, 7, none⟩ v7).setCell ⟨g, 8, none⟩ v8).setCell ⟨g, 9, none⟩ v9).setCell ⟨g, 10, none⟩ v10).setCell ⟨g, 11, none⟩ v11).setCell ⟨g, 12, none⟩ v12) = W9 ∧ W9.heap[g]? = some (.cells #[v0, v1, v2, v3, v4, v5, v6, v7, v8, v9, v10, v11, v12] T (0, 0)) ∧ (∀ k, k ≠ g → W9.heap[k]? = W.heap[k]?) ∧ (∀ B w, B ≤ g → Below B w W → Below B w W9) := by
  refine ⟨_, rfl, ?_, ?_, ?_⟩
  · have h := setCell_blk (setCell_blk (setCell_blk (setCell_blk (setCell_blk (setCell_blk (setCell_blk (setCell_blk (setCell_blk (setCell_blk (setCell_blk (setCell_blk (setCell_blk (hb) 0 v0) 1 v1) 2 v2) 3 v3) 4 v4) 5 v5) 6 v6) 7 v7) 8 v8) 9 v9) 10 v10) 11 v11) 12 v12
    simpa using h
  · intro k hk
    rw [setCell_far _ _ hk, setCell_far _ _ hk, setCell_far _ _ hk, setCell_far _ _ hk, setCell_far _ _ hk, setCell_far _ _ hk, setCell_far _ _ hk, setCell_far _ _ hk, setCell_far _ _ hk, setCell_far _ _ hk, setCell_far _ _ hk, setCell_far _ _ hk, setCell_far _ _ hk]
  · intro B w hB h
    exact (((((((((((((h.setCell (p := ⟨g, 0, none⟩) hB _).setCell (p := ⟨g, 1, none⟩) hB _).setCell (p := ⟨g, 2, none⟩) hB _).setCell (p := ⟨g, 3, none⟩) hB _).setCell (p := ⟨g, 4, none⟩) hB _).setCell (p := ⟨g, 5, none⟩) hB _).setCell (p := ⟨g, 6, none⟩) hB _).setCell (p := ⟨g, 7, none⟩) hB _).setCell (p := ⟨g, 8, none⟩) hB _).setCell (p := ⟨g, 9, none⟩) hB _).setCell (p := ⟨g, 10, none⟩) hB _).setCell (p := ⟨g, 11, none⟩) hB _).setCell (p := ⟨g, 12, none⟩) hB _)

theorem liesFar {w w' : World} {a : Option Addr} {xs : List Value} {g : Nat} (h : Lies w a xs) (hk : ∀ k, k ≠ g → w'.heap[k]? = w.heap[k]?) (hne : ∀ b o, a = some ⟨b, o, none⟩ → b ≠ g) : Lies w' a xs := by
  intro k u hu
  obtain ⟨b, off, e, hc⟩ := h k u hu
  refine ⟨b, off, e, ?_⟩
  rw [← hc]
  simp only [World.cell?, hk b (hne b off e)]

theorem own_gen {w : World} {B n es : Nat} {e : TypeId} {v : Value} {xs : List Value} (h : w.ownsRow B e es v n xs) : ∃ a cap, v = .slice a n cap ∧ Lies w a xs ∧ n ≤ cap := by
  rcases h.2 with ⟨rfl, h0⟩ | ⟨g, cap, cur, rfl, hg, hc, h1, h2, h3, htake⟩
  · subst h0
    have hx := h.1
    obtain rfl : xs = [] := List.eq_nil_of_length_eq_zero (by simpa using hx)
    exact ⟨none, 0, rfl, Lies.nil _ _, Nat.le_refl _⟩
  · refine ⟨some ⟨g, 0, none⟩, cap, rfl, ?_, h1⟩
    have h4 := Lies.of_block hc
    intro k u hu
    refine h4 k u ?_
    have hk : k < n * es := by
      have hx := h.1
      rcases Nat.lt_or_ge k xs.length with h5 | h5
      · omega
      · rw [List.getElem?_eq_none h5] at hu; cases hu
    rw [← htake, List.getElem?_take, if_pos hk] at hu
    exact hu

theorem lies_gen {w : World} {ad : Addr} {xs : List Value} (h : Lies w (some ad) xs) : ∀ j u, xs[j]? = some u → w.cell? (ad.add j) = some u := by
  intro j u hu
  obtain ⟨b, o, e, hc⟩ := h j u hu
  simp at e
  subst e
  simpa [Addr.add_lit] using hc

theorem heap_set {w : World} {b o : Nat} {c : Array Value} {t : TypeId} {f : Nat × Nat} {v : Value} (h : w.heap[b]? = some (.cells c t f)) : (w.setCell ⟨b, o, none⟩ v).heap[b]? = some (.cells (c.setIfInBounds o v) t f) := by
  exact setCell_blk h o v

theorem bs_oneK (l : List UInt8) : ∀ v ∈ bs l, v.oneCell' = true := by
  intro v hv
  obtain ⟨x, _, rfl⟩ := List.mem_map.1 hv
  rfl

theorem setFarK {w : World} {g k : Nat} (j : Nat) (v : Value) (h : k ≠ g) : (w.setCell ⟨g, j, none⟩ v).heap[k]? = w.heap[k]? :=
  Below.heap_setCell _ _ _ _ (fun e => h (by simpa using e))

theorem liesG {w w' : World} {a : Option Addr} {xs : List Value} {g : Nat} (h : Lies w a xs) (hk : ∀ k, k ≠ g → w'.heap[k]? = w.heap[k]?) (hne : ∀ b o, a = some ⟨b, o, none⟩ → b ≠ g) : Lies w' a xs := by
  intro k u hu
  obtain ⟨b, off, e, hc⟩ := h k u hu
  refine ⟨b, off, e, ?_⟩
  rw [← hc]
  simp only [World.cell?, hk b (hne b off e)]

theorem box2K (W : World) (g : Nat) (T : TypeId) (a0 a1 v0 v1 : Value) (hb : W.heap[g]? = some (.cells #[a0, a1] T (0, 0))) :
    ∃ W', (W.setCell ⟨g, 0, none⟩ v0).setCell ⟨g, 1, none⟩ v1 = W' ∧ W'.heap[g]? = some (.cells #[v0, v1] T (0, 0)) ∧ (∀ k, k ≠ g → W'.heap[k]? = W.heap[k]?) ∧ ∀ B w, B ≤ g → Below B w W → Below B w W' := by
  refine ⟨_, rfl, ?_, ?_, ?_⟩
  · have h := heap_set (o := 1) (v := v1) (heap_set (o := 0) (v := v0) hb)
    simpa using h
  · intro k hk
    rw [setFarK _ _ hk, setFarK _ _ hk]
  · intro B w hB h
    exact ((h.setCell (p := ⟨g, 0, none⟩) hB _).setCell (p := ⟨g, 1, none⟩) hB _)

theorem setSecond (W : World) (g : Nat) (T : TypeId) (a b v : Value) (h : W.heap[g]? = some (.cells #[a, b] T (0, 0))) :
    ∃ W', W.setCell ⟨g, 1, none⟩ v = W' ∧ W'.heap[g]? = some (.cells #[a, v] T (0, 0)) ∧ (∀ k, k ≠ g → W'.heap[k]? = W.heap[k]?) ∧ ∀ B w, B ≤ g → Below B w W → Below B w W' := by
  refine ⟨_, rfl, ?_, ?_, ?_⟩
  · have := heap_set (o := 1) (v := v) h
    simpa using this
  · intro k hk
    exact setFarK _ _ hk
  · intro B w hB hb
    exact hb.setCell (p := ⟨g, 1, none⟩) hB _

end Go.Proofs.Ythhhlampphlmgaa

/-
  Rows over two: sums, what they span, rows in order (each has a first block that no other one has), and that what is spanned has one such order alone. Nothing of any program.
-/
namespace Go.Proofs.Ythhhlampphlmgaa
set_option linter.unusedVariables false
set_option linter.unusedSimpArgs false

/-- a row: which blocks are in it, and their sum -/
structure V where
  has : Nat → Bool
  dat : Nat → UInt8

theorem V.ext' {a b : V} (h : ∀ k, a.has k = b.has k) (d : ∀ k, a.dat k = b.dat k) : a = b := by
  cases a; cases b
  congr
  · exact funext h
  · exact funext d

def V.o : V := ⟨fun _ => false, fun _ => 0⟩

/-- both rows' sum -/
def V.add (a b : V) : V := ⟨fun k => a.has k != b.has k, fun k => a.dat k ^^^ b.dat k⟩

theorem V.has_add (a b : V) (k : Nat) : (a.add b).has k = (a.has k != b.has k) := rfl
theorem V.has_o (k : Nat) : V.o.has k = false := rfl

theorem V.add_comm (a b : V) : a.add b = b.add a :=
  V.ext' (fun k => by simp only [V.add]; cases a.has k <;> cases b.has k <;> rfl) (fun k => by simp only [V.add]; exact UInt8.xor_comm _ _)

theorem V.add_assoc (a b c : V) : (a.add b).add c = a.add (b.add c) :=
  V.ext' (fun k => by simp only [V.add]; cases a.has k <;> cases b.has k <;> cases c.has k <;> rfl) (fun k => by simp only [V.add]; exact UInt8.xor_assoc _ _ _)

theorem V.add_self (a : V) : a.add a = V.o :=
  V.ext' (fun k => by simp [V.add, V.o]) (fun k => by simp [V.add, V.o])

theorem V.add_o (a : V) : a.add V.o = a :=
  V.ext' (fun k => by simp [V.add, V.o]) (fun k => by simp [V.add, V.o])

theorem V.o_add (a : V) : V.o.add a = a := by rw [V.add_comm, V.add_o]

theorem V.add_add (a b : V) : (a.add b).add b = a := by rw [V.add_assoc, V.add_self, V.add_o]

theorem V.eq_of_add {a b : V} (h : a.add b = V.o) : a = b := by
  have := V.add_add a b
  rw [h, V.o_add] at this
  exact this.symm

/-- what rows make, added -/
inductive Span (S : List V) : V → Prop
  | o : Span S V.o
  | step {r v : V} : r ∈ S → Span S v → Span S (v.add r)

theorem Span.mem {S : List V} {r : V} (h : r ∈ S) : Span S r := by
  have := Span.step h Span.o
  rwa [V.o_add] at this

theorem Span.add {S : List V} {a b : V} (ha : Span S a) (hb : Span S b) : Span S (a.add b) := by
  induction hb with
  | o => rw [V.add_o]; exact ha
  | step h _ ih => rw [← V.add_assoc]; exact .step h ih

theorem Span.sub {S T : List V} (h : ∀ r ∈ S, Span T r) {v : V} (hv : Span S v) : Span T v := by
  induction hv with
  | o => exact .o
  | step hr _ ih => exact ih.add (h _ hr)

theorem Span.mono {S T : List V} (h : ∀ r ∈ S, r ∈ T) {v : V} (hv : Span S v) : Span T v := hv.sub fun r hr => .mem (h r hr)

/-- where all are nought, so is what they span -/
theorem Span.nought {S : List V} {k : Nat} (h : ∀ r ∈ S, r.has k = false) {v : V} (hv : Span S v) : v.has k = false := by
  induction hv with
  | o => rfl
  | step hr _ ih => rw [V.has_add, ih, h _ hr]; rfl

theorem Span.head {r : V} {S : List V} {v : V} (hv : Span (r :: S) v) : Span S v ∨ Span S (v.add r) := by
  induction hv with
  | o => exact .inl .o
  | @step x u hr _ ih =>
    rcases List.mem_cons.1 hr with rfl | hr
    · rcases ih with ih | ih
      · exact .inr (by rw [V.add_add]; exact ih)
      · exact .inl ih
    · rcases ih with ih | ih
      · exact .inl (.step hr ih)
      · refine .inr ?_
        rw [V.add_assoc, V.add_comm x r, ← V.add_assoc]
        exact .step hr ih

/-- a row's first block -/
def Lead (v : V) (k : Nat) : Prop := v.has k = true ∧ ∀ j, j < k → v.has j = false

theorem Lead.one {v : V} {j k : Nat} (h : Lead v j) (h' : Lead v k) : j = k := by
  rcases Nat.lt_trichotomy j k with hl | rfl | hl
  · have := h'.2 j hl; rw [h.1] at this; cases this
  · rfl
  · have := h.2 k hl; rw [h'.1] at this; cases this

theorem Lead.of_has {v : V} : ∀ {k : Nat}, v.has k = true → ∃ j, j ≤ k ∧ Lead v j := by
  intro k
  induction k using Nat.strongRecOn with
  | _ k ih =>
    intro h
    by_cases hj : ∃ j, j < k ∧ v.has j = true
    · obtain ⟨j, hl, hh⟩ := hj
      obtain ⟨i, hi, hL⟩ := ih j hl hh
      exact ⟨i, by omega, hL⟩
    · refine ⟨k, Nat.le_refl _, h, fun j hl => ?_⟩
      cases hh : v.has j
      · rfl
      · exact absurd ⟨j, hl, hh⟩ hj

/-- one row stands ahead of another one, neither has the other's first block -/
def Ahead (a b : V) : Prop := ∃ j k, Lead a j ∧ Lead b k ∧ j < k ∧ a.has k = false

theorem Ahead.not {a b : V} (h : Ahead a b) (h' : Ahead b a) : False := by
  obtain ⟨j, k, l1, l2, hl, _⟩ := h
  obtain ⟨j', k', l1', l2', hl', _⟩ := h'
  have := l1.one l2'
  have := l2.one l1'
  omega

theorem Ahead.ne {a : V} (h : Ahead a a) : False := h.not h

/-- rows in order -/
structure Sys (A : List V) : Prop where
  lead : ∀ r ∈ A, ∃ k, Lead r k
  pair : A.Pairwise Ahead

theorem Sys.nil : Sys [] := ⟨fun r h => by simp at h, .nil⟩

theorem Sys.tail {a : V} {A : List V} (h : Sys (a :: A)) : Sys A := ⟨fun r hr => h.lead r (List.mem_cons_of_mem _ hr), (List.pairwise_cons.1 h.pair).2⟩

theorem Sys.ahead {a : V} {A : List V} (h : Sys (a :: A)) : ∀ r ∈ A, Ahead a r := (List.pairwise_cons.1 h.pair).1

/-- no other row has a row's first block -/
theorem Sys.apart {A : List V} (h : Sys A) {r s : V} (hr : r ∈ A) (hs : s ∈ A) {k : Nat} (hl : Lead r k) (hk : s.has k = true) : s = r := by
  induction A with
  | nil => simp at hr
  | cons a A ih =>
    rcases List.mem_cons.1 hr with rfl | hr'
    · rcases List.mem_cons.1 hs with rfl | hs'
      · rfl
      · obtain ⟨i, j, l1, l2, hlt, hf⟩ := h.ahead s hs'
        have := l1.one hl
        subst this
        rw [l2.2 _ hlt] at hk
        cases hk
    · rcases List.mem_cons.1 hs with rfl | hs'
      · obtain ⟨i, j, l1, l2, hlt, hf⟩ := h.ahead r hr'
        have := l2.one hl
        subst this
        rw [hf] at hk
        cases hk
      · exact ih h.tail hr' hs'

/-- what is spanned and has no first block of theirs is nought -/
theorem Sys.nought {A : List V} (h : Sys A) {v : V} (hv : Span A v) (hz : ∀ r ∈ A, ∀ k, Lead r k → v.has k = false) : v = V.o := by
  induction A with
  | nil =>
    cases hv with
    | o => rfl
    | step hr _ => simp at hr
  | cons a A ih =>
    rcases hv.head with hv' | hv'
    · exact ih h.tail hv' fun r hr => hz r (List.mem_cons_of_mem _ hr)
    · obtain ⟨k, hk⟩ := h.lead a List.mem_cons_self
      have h1 : (v.add a).has k = false := hv'.nought fun r hr => by
        obtain ⟨i, j, l1, l2, hlt, _⟩ := h.ahead r hr
        have := l1.one hk
        subst this
        exact l2.2 _ hlt
      have h2 := hz a List.mem_cons_self k hk
      rw [V.has_add, h2, hk.1] at h1
      cases h1

/-- the first block of what is spanned is one of theirs -/
theorem Sys.first {A : List V} (h : Sys A) {v : V} (hv : Span A v) {k : Nat} (hk : Lead v k) : ∃ r ∈ A, Lead r k := by
  induction A with
  | nil =>
    cases hv with
    | o => cases hk.1
    | step hr _ => simp at hr
  | cons a A ih =>
    rcases hv.head with hv' | hv'
    · obtain ⟨r, hr, hl⟩ := ih h.tail hv'
      exact ⟨r, List.mem_cons_of_mem _ hr, hl⟩
    · obtain ⟨j, hj⟩ := h.lead a List.mem_cons_self
      have hn : ∀ i, i ≤ j → (v.add a).has i = false := fun i hi => hv'.nought fun r hr => by
        obtain ⟨i', j', l1, l2, hlt, _⟩ := h.ahead r hr
        have := l1.one hj
        exact l2.2 _ (by omega)
      have he : ∀ i, i ≤ j → v.has i = a.has i := fun i hi => by
        have := hn i hi
        rw [V.has_add] at this
        simpa using this
      have hvj : Lead v j := ⟨by rw [he j (Nat.le_refl _)]; exact hj.1, fun i hi => by rw [he i (by omega)]; exact hj.2 i hi⟩
      have := hvj.one hk
      subst this
      exact ⟨a, List.mem_cons_self, hj⟩

theorem Sys.sub {A B : List V} (hA : Sys A) (hB : Sys B) (h : ∀ v, Span A v ↔ Span B v) : ∀ a ∈ A, a ∈ B := by
  intro a ha
  obtain ⟨k, hk⟩ := hA.lead a ha
  obtain ⟨b, hb, hbk⟩ := hB.first ((h a).1 (.mem ha)) hk
  have hz : a.add b = V.o := by
    refine hB.nought (((h a).1 (.mem ha)).add (.mem hb)) fun r hr p hp => ?_
    rw [V.has_add]
    by_cases e : p = k
    · subst e; rw [hk.1, hbk.1]; rfl
    · have h1 : b.has p = false := by
        cases hh : b.has p
        · rfl
        · have := hB.apart hr hb hp hh
          subst this
          exact absurd (hp.one hbk) e
      have h2 : a.has p = false := by
        obtain ⟨a', ha', hl'⟩ := hA.first ((h r).2 (.mem hr)) hp
        cases hh : a.has p
        · rfl
        · have := hA.apart ha' ha hl' hh
          subst this
          exact absurd (hl'.one hk) e
      rw [h1, h2]; rfl
  rw [V.eq_of_add hz]
  exact hb

/-- there is one order alone -/
theorem Sys.same {A B : List V} (hA : Sys A) (hB : Sys B) (h1 : ∀ a ∈ A, a ∈ B) (h2 : ∀ b ∈ B, b ∈ A) : A = B := by
  induction A generalizing B with
  | nil =>
    cases B with
    | nil => rfl
    | cons b B => exact absurd (h2 b List.mem_cons_self) (by simp)
  | cons a A ih =>
    cases B with
    | nil => exact absurd (h1 a List.mem_cons_self) (by simp)
    | cons b B =>
      have e : a = b := by
        rcases List.mem_cons.1 (h1 a List.mem_cons_self) with e | h
        · exact e
        · rcases List.mem_cons.1 (h2 b List.mem_cons_self) with e | h'
          · exact e.symm
          · exact ((hB.ahead a h).not (hA.ahead b h')).elim
      subst e
      congr 1
      refine ih hA.tail hB.tail (fun x hx => ?_) (fun x hx => ?_)
      · rcases List.mem_cons.1 (h1 x (List.mem_cons_of_mem _ hx)) with e | h
        · subst e; exact (hA.ahead x hx).ne.elim
        · exact h
      · rcases List.mem_cons.1 (h2 x (List.mem_cons_of_mem _ hx)) with e | h
        · subst e; exact (hB.ahead x hx).ne.elim
        · exact h

theorem Sys.uniq {A B : List V} (hA : Sys A) (hB : Sys B) (h : ∀ v, Span A v ↔ Span B v) : A = B :=
  hA.same hB (hA.sub hB h) (hB.sub hA fun v => (h v).symm)

end Go.Proofs.Ythhhlampphlmgaa

/-
  A row added to rows in order: brought down by them, put among them; and all rows brought into order anew, column by column: both end in the same rows. Nothing of any program.
-/
namespace Go.Proofs.Ythhhlampphlmgaa
set_option linter.unusedVariables false
set_option linter.unusedSimpArgs false

/-- a row's first block of n; n, if it has none -/
def fst (n : Nat) (v : V) : Nat := (List.range n).findIdx fun k => v.has k

theorem fst_lead {n : Nat} {v : V} {k : Nat} (h : Lead v k) (hk : k < n) : fst n v = k := by
  unfold fst
  rw [List.findIdx_eq (by simpa using hk)]
  refine ⟨by simpa using h.1, fun j hj => ?_⟩
  simpa using h.2 j hj

theorem lead_fst {n : Nat} {v : V} (h : fst n v < n) : Lead v (fst n v) := by
  unfold fst at h ⊢
  have h1 : (List.range n).findIdx (fun k => v.has k) < (List.range n).length := by simpa using h
  refine ⟨by simpa using List.findIdx_getElem (w := h1), fun j hj => ?_⟩
  have := List.not_of_lt_findIdx hj
  simpa using this

theorem fst_le (n : Nat) (v : V) : fst n v ≤ n := by
  have := List.findIdx_le_length (p := fun k => v.has k) (xs := List.range n)
  simpa [fst] using this

theorem fst_none {n : Nat} {v : V} : fst n v = n ↔ ∀ k, k < n → v.has k = false := by
  constructor
  · intro h k hk
    have : k < (List.range n).findIdx (fun k => v.has k) := by unfold fst at h; omega
    simpa using List.not_of_lt_findIdx this
  · intro h
    rcases Nat.lt_or_ge (fst n v) n with hl | hl
    · have := (lead_fst hl).1
      rw [h _ hl] at this
      cases this
    · have := fst_le n v
      omega

/-- of so many blocks -/
def Of (n : Nat) (v : V) : Prop := ∀ k, n ≤ k → v.has k = false

theorem Of.add {n : Nat} {a b : V} (ha : Of n a) (hb : Of n b) : Of n (a.add b) := fun k hk => by rw [V.has_add, ha k hk, hb k hk]; rfl

theorem Of.lead {n : Nat} {v : V} (h : Of n v) {k : Nat} (hk : Lead v k) : k < n := by
  rcases Nat.lt_or_ge k n with hl | hl
  · exact hl
  · have := hk.1
    rw [h k hl] at this
    cases this

theorem Span.of {n : Nat} {S : List V} (h : ∀ r ∈ S, Of n r) {v : V} (hv : Span S v) : Of n v := fun k hk => hv.nought fun r hr => h r hr k hk

/-- a row, each row added whose first block it has -/
def red (n : Nat) (A : List V) (v : V) : V := A.foldl (fun v s => if v.has (fst n s) = true then v.add s else v) v

theorem red_nil (n : Nat) (v : V) : red n [] v = v := rfl
theorem red_cons (n : Nat) (a : V) (A : List V) (v : V) : red n (a :: A) v = red n A (if v.has (fst n a) = true then v.add a else v) := rfl

theorem red_snoc (n : Nat) (A : List V) (a v : V) : red n (A ++ [a]) v = if (red n A v).has (fst n a) = true then (red n A v).add a else red n A v := by
  unfold red
  rw [List.foldl_append]
  rfl

theorem red_span (n : Nat) (A : List V) (v : V) : Span A ((red n A v).add v) := by
  induction A generalizing v with
  | nil => rw [red_nil, V.add_self]; exact .o
  | cons a A ih =>
    rw [red_cons]
    split
    · have h1 := (ih (v.add a)).mono (T := a :: A) fun r hr => List.mem_cons_of_mem _ hr
      have h2 := h1.add (.mem (List.mem_cons_self (a := a) (l := A)))
      rwa [V.add_assoc, V.add_add] at h2
    · exact (ih v).mono fun r hr => List.mem_cons_of_mem _ hr

theorem red_keep {n : Nat} {A : List V} {k : Nat} (h : ∀ s ∈ A, s.has k = false) (v : V) : (red n A v).has k = v.has k := by
  induction A generalizing v with
  | nil => rfl
  | cons a A ih =>
    rw [red_cons, ih (fun s hs => h s (List.mem_cons_of_mem _ hs))]
    split
    · rw [V.has_add, h a List.mem_cons_self]; simp
    · rfl

theorem red_clear {n : Nat} {A : List V} (hA : Sys A) (hn : ∀ r ∈ A, Of n r) (v : V) : ∀ r ∈ A, ∀ k, Lead r k → (red n A v).has k = false := by
  induction A generalizing v with
  | nil => intro r hr; simp at hr
  | cons a A ih =>
    intro r hr k hk
    rcases List.mem_cons.1 hr with rfl | hr'
    · rw [red_cons, fst_lead hk ((hn r List.mem_cons_self).lead hk), red_keep]
      · cases hh : v.has k
        · simp [hh]
        · simp [V.has_add, hh, hk.1]
      · intro s hs
        obtain ⟨i, j, l1, l2, hlt, _⟩ := hA.ahead s hs
        have := l1.one hk
        subst this
        exact l2.2 _ hlt
    · rw [red_cons]
      exact ih hA.tail (fun s hs => hn s (List.mem_cons_of_mem _ hs)) _ r hr' k hk

theorem red_of {n : Nat} {A : List V} (hn : ∀ r ∈ A, Of n r) {v : V} (hv : Of n v) : Of n (red n A v) := by
  have h := (red_span n A v).of hn
  have := h.add hv
  rwa [V.add_add] at this

/-- with the row as with what is left of it -/
theorem red_same (n : Nat) (A : List V) (r v : V) : Span (A ++ [r]) v ↔ Span (A ++ [red n A r]) v := by
  have hs := red_span n A r
  have h1 : Span (A ++ [red n A r]) r := by
    have h := (hs.mono (T := A ++ [red n A r]) fun x hx => List.mem_append_left _ hx).add (.mem (r := red n A r) (by simp))
    rw [V.add_comm, ← V.add_assoc, V.add_self, V.o_add] at h
    exact h
  have h2 : Span (A ++ [r]) (red n A r) := by
    have h := (hs.mono (T := A ++ [r]) fun x hx => List.mem_append_left _ hx).add (.mem (r := r) (by simp))
    rwa [V.add_add] at h
  constructor
  · refine Span.sub fun x hx => ?_
    rcases List.mem_append.1 hx with hx | hx
    · exact .mem (List.mem_append_left _ hx)
    · rw [List.mem_singleton.1 hx]; exact h1
  · refine Span.sub fun x hx => ?_
    rcases List.mem_append.1 hx with hx | hx
    · exact .mem (List.mem_append_left _ hx)
    · rw [List.mem_singleton.1 hx]; exact h2

/-- what a row becomes behind a new one of which it has the first block -/
def clr (p : V) (k : Nat) (s : V) : V := if s.has k = true then s.add p else s

theorem clr_has {p s : V} {k : Nat} (hp : p.has k = true) : (clr p k s).has k = false := by
  unfold clr
  split
  · rename_i h; rw [V.has_add, h, hp]; rfl
  · rename_i h; simpa using h

theorem clr_low {p s : V} {k j : Nat} (hj : p.has j = false) : (clr p k s).has j = s.has j := by
  unfold clr
  split
  · rw [V.has_add, hj]; simp
  · rfl

theorem clr_lead {p s : V} {k j : Nat} (hp : Lead p k) (hs : Lead s j) (hj : p.has j = false) (hne : j ≠ k) : Lead (clr p k s) j := by
  rcases Nat.lt_or_ge j k with hl | hl
  · refine ⟨by rw [clr_low hj]; exact hs.1, fun i hi => ?_⟩
    rw [clr_low (hp.2 i (by omega))]
    exact hs.2 i hi
  · have h : s.has k = false := hs.2 k (by omega)
    unfold clr
    rw [if_neg (by simp [h])]
    exact hs

/-- a new row stands among them -/
theorem Sys.insert {X Y : List V} {p : V} {k : Nat} (h : Sys (X ++ Y)) (hp : Lead p k) (hz : ∀ r ∈ X ++ Y, ∀ j, Lead r j → p.has j = false)
    (hX : ∀ r ∈ X, ∃ j, j < k ∧ Lead r j) (hY : ∀ r ∈ Y, ∃ j, k < j ∧ Lead r j) : Sys (X.map (clr p k) ++ p :: Y.map (clr p k)) := by
  have hP := List.pairwise_append.1 h.pair
  have hc : ∀ a ∈ X ++ Y, ∀ b ∈ X ++ Y, Ahead a b → Ahead (clr p k a) (clr p k b) := by
    rintro a ha b hb ⟨i, j, l1, l2, hlt, hf⟩
    have z1 := hz a ha i l1
    have z2 := hz b hb j l2
    have n1 : i ≠ k := fun e => by subst e; rw [hp.1] at z1; cases z1
    have n2 : j ≠ k := fun e => by subst e; rw [hp.1] at z2; cases z2
    exact ⟨i, j, clr_lead hp l1 z1 n1, clr_lead hp l2 z2 n2, hlt, by rw [clr_low z2]; exact hf⟩
  have hl : ∀ a ∈ X ++ Y, ∃ i, Lead (clr p k a) i := fun a ha => by
    obtain ⟨i, hi⟩ := h.lead a ha
    have z := hz a ha i hi
    exact ⟨i, clr_lead hp hi z fun e => by subst e; rw [hp.1] at z; cases z⟩
  refine ⟨fun r hr => ?_, ?_⟩
  · rcases List.mem_append.1 hr with hr | hr
    · obtain ⟨a, ha, rfl⟩ := List.mem_map.1 hr
      exact hl a (List.mem_append_left _ ha)
    · rcases List.mem_cons.1 hr with rfl | hr
      · exact ⟨k, hp⟩
      · obtain ⟨a, ha, rfl⟩ := List.mem_map.1 hr
        exact hl a (List.mem_append_right _ ha)
  · rw [List.pairwise_append, List.pairwise_cons]
    refine ⟨?_, ⟨?_, ?_⟩, ?_⟩
    · rw [List.pairwise_map]
      exact hP.1.imp_of_mem fun ha hb hab => hc _ (List.mem_append_left _ ha) _ (List.mem_append_left _ hb) hab
    · intro b hb
      obtain ⟨a, ha, rfl⟩ := List.mem_map.1 hb
      obtain ⟨j, hj, hl'⟩ := hY a ha
      have z := hz a (List.mem_append_right _ ha) j hl'
      exact ⟨k, j, hp, clr_lead hp hl' z (by omega), hj, z⟩
    · rw [List.pairwise_map]
      exact hP.2.1.imp_of_mem fun ha hb hab => hc _ (List.mem_append_right _ ha) _ (List.mem_append_right _ hb) hab
    · intro a ha b hb
      obtain ⟨a', ha', rfl⟩ := List.mem_map.1 ha
      rcases List.mem_cons.1 hb with rfl | hb
      · obtain ⟨j, hj, hl'⟩ := hX a' ha'
        have z := hz a' (List.mem_append_left _ ha') j hl'
        exact ⟨j, k, clr_lead hp hl' z (by omega), hp, hj, clr_has hp.1⟩
      · obtain ⟨b', hb', rfl⟩ := List.mem_map.1 hb
        exact hc _ (List.mem_append_left _ ha') _ (List.mem_append_right _ hb') (hP.2.2 a' ha' b' hb')

theorem clr_span {S : List V} {p s : V} {k : Nat} (hs : Span S s) (hp : Span S p) : Span S (clr p k s) := by
  unfold clr
  split
  · exact hs.add hp
  · exact hs

theorem span_clr {S : List V} {p s : V} {k : Nat} (hs : Span S (clr p k s)) (hp : Span S p) : Span S s := by
  unfold clr at hs
  split at hs
  · have := hs.add hp
    rwa [V.add_add] at this
  · exact hs

/-- .. and spans with them what they and it span -/
theorem insert_span (X Y : List V) (p : V) (k : Nat) (v : V) : Span (X.map (clr p k) ++ p :: Y.map (clr p k)) v ↔ Span (X ++ Y ++ [p]) v := by
  constructor
  · refine Span.sub fun r hr => ?_
    have hp : Span (X ++ Y ++ [p]) p := .mem (by simp)
    rcases List.mem_append.1 hr with hr | hr
    · obtain ⟨a, ha, rfl⟩ := List.mem_map.1 hr
      exact clr_span (.mem (by simp [ha])) hp
    · rcases List.mem_cons.1 hr with rfl | hr
      · exact hp
      · obtain ⟨a, ha, rfl⟩ := List.mem_map.1 hr
        exact clr_span (.mem (by simp [ha])) hp
  · refine Span.sub fun r hr => ?_
    have hp : Span (X.map (clr p k) ++ p :: Y.map (clr p k)) p := .mem (by simp)
    rcases List.mem_append.1 hr with hr | hr
    · rcases List.mem_append.1 hr with hr | hr
      · exact span_clr (k := k) (.mem (List.mem_append_left _ (List.mem_map_of_mem hr))) hp
      · exact span_clr (k := k) (.mem (List.mem_append_right _ (List.mem_cons_of_mem _ (List.mem_map_of_mem hr)))) hp
    · rw [List.mem_singleton.1 hr]; exact hp

end Go.Proofs.Ythhhlampphlmgaa

/-
  All rows brought into order anew, column by column; and what that makes of rows in order and one row more. Nothing of any program.
-/
namespace Go.Proofs.Ythhhlampphlmgaa
set_option linter.unusedVariables false
set_option linter.unusedSimpArgs false

/-- the rows by their places -/
def rowsOf (R : Nat → V) (n : Nat) : List V := (List.range n).map R

theorem mem_rowsOf {R : Nat → V} {n : Nat} {v : V} : v ∈ rowsOf R n ↔ ∃ j, j < n ∧ R j = v := by simp [rowsOf]

theorem rowsOf_length (R : Nat → V) (n : Nat) : (rowsOf R n).length = n := by simp [rowsOf]

/-- columns below c are done: 'at' rows are in order, with the first blocks L; the others have none of those columns -/
structure El (R : Nat → V) (N at' c : Nat) (L : Nat → Nat) : Prop where
  le : at' ≤ N
  lead : ∀ i, i < at' → Lead (R i) (L i) ∧ L i < c
  mono : ∀ i j, i < j → j < at' → L i < L j
  apart : ∀ i, i < at' → ∀ j, j < N → j ≠ i → (R j).has (L i) = false
  rest : ∀ j, at' ≤ j → j < N → ∀ m, m < c → (R j).has m = false

theorem El.start (R : Nat → V) (N : Nat) : El R N 0 0 (fun _ => 0) := ⟨Nat.zero_le _, fun i h => by omega, fun i j _ h => by omega, fun i h => by omega, fun j _ _ m h => by omega⟩

/-- no row is left that has this column -/
theorem El.pass {R : Nat → V} {N a c : Nat} {L : Nat → Nat} (h : El R N a c L) (hn : ∀ j, a ≤ j → j < N → (R j).has c = false) : El R N a (c + 1) L := by
  refine ⟨h.le, fun i hi => ⟨(h.lead i hi).1, by have := (h.lead i hi).2; omega⟩, h.mono, h.apart, fun j h1 h2 m hm => ?_⟩
  rcases Nat.lt_or_ge m c with hl | hl
  · exact h.rest j h1 h2 m hl
  · obtain rfl : m = c := by omega
    exact hn j h1 h2

/-- two rows change places -/
def swapR (R : Nat → V) (a w : Nat) (j : Nat) : V := if j = a then R w else if j = w then R a else R j

/-- one row is added to the others that have its column -/
def clrR (R : Nat → V) (a c : Nat) (j : Nat) : V := if j = a then R j else clr (R a) c (R j)

theorem El.take {R : Nat → V} {N a c w : Nat} {L : Nat → Nat} (h : El R N a c L) (h1 : a ≤ w) (h2 : w < N) (hw : (R w).has c = true) :
    El (clrR (swapR R a w) a c) N (a + 1) (c + 1) (fun i => if i = a then c else L i) := by
  have hp : Lead (R w) c := ⟨hw, fun m hm => h.rest w h1 h2 m hm⟩
  have hSa : swapR R a w a = R w := by simp [swapR]
  have hlow : ∀ i, i < a → swapR R a w i = R i := fun i hi => by simp [swapR, show ¬ i = a by omega, show ¬ i = w by omega]
  have hhigh : ∀ j, a < j → j < N → ∃ j', a ≤ j' ∧ j' < N ∧ swapR R a w j = R j' := fun j h3 h4 => by
    by_cases e : j = w
    · exact ⟨a, Nat.le_refl _, by omega, by simp [swapR, show ¬ j = a by omega, e]; intro e'; omega⟩
    · exact ⟨j, by omega, h4, by simp [swapR, show ¬ j = a by omega, e]⟩
  have hca : clrR (swapR R a w) a c a = R w := by simp [clrR, hSa]
  have hcl : ∀ i, i < a → clrR (swapR R a w) a c i = clr (R w) c (R i) := fun i hi => by simp [clrR, show ¬ i = a by omega, hSa, hlow i hi]
  have hch : ∀ j, a < j → j < N → ∃ j', a ≤ j' ∧ j' < N ∧ clrR (swapR R a w) a c j = clr (R w) c (R j') := fun j h3 h4 => by
    obtain ⟨j', g1, g2, g3⟩ := hhigh j h3 h4
    exact ⟨j', g1, g2, by simp [clrR, show ¬ j = a by omega, hSa, g3]⟩
  refine ⟨by have := h.le; omega, fun i hi => ?_, fun i j hij hj => ?_, fun i hi j hj hne => ?_, fun j g1 g2 m hm => ?_⟩
  · by_cases e : i = a
    · subst e
      rw [hca, if_pos rfl]
      exact ⟨hp, by omega⟩
    · rw [if_neg e, hcl i (by omega)]
      have hli := h.lead i (by omega)
      exact ⟨clr_lead hp hli.1 (h.apart i (by omega) w h2 (by omega)) (by omega), by omega⟩
  · by_cases e : j = a
    · subst e
      rw [if_pos rfl, if_neg (by omega)]
      exact (h.lead i (by omega)).2
    · rw [if_neg e, if_neg (by omega)]
      exact h.mono i j hij (by omega)
  · by_cases e : i = a
    · subst e
      rw [if_pos rfl]
      rcases Nat.lt_trichotomy j i with g | g | g
      · rw [hcl j g]; exact clr_has hw
      · exact absurd g hne
      · obtain ⟨j', _, _, g3⟩ := hch j g hj
        rw [g3]; exact clr_has hw
    · rw [if_neg e]
      have hz := h.apart i (by omega) w h2 (by omega)
      rcases Nat.lt_trichotomy j a with g | g | g
      · rw [hcl j g, clr_low hz]; exact h.apart i (by omega) j hj hne
      · subst g; rw [hca]; exact hz
      · obtain ⟨j', g1, g2, g3⟩ := hch j g hj
        rw [g3, clr_low hz]; exact h.apart i (by omega) j' g2 (by omega)
  · obtain ⟨j', g1', g2', g3⟩ := hch j (by omega) g2
    rw [g3]
    rcases Nat.lt_or_ge m c with hl | hl
    · rw [clr_low (h.rest w h1 h2 m hl)]; exact h.rest j' g1' g2' m hl
    · obtain rfl : m = c := by omega
      exact clr_has hw

/-- .. and they span what they spanned -/
theorem take_span {R : Nat → V} {N a c w : Nat} (h1 : a ≤ w) (h2 : w < N) (v : V) : Span (rowsOf (clrR (swapR R a w) a c) N) v ↔ Span (rowsOf R N) v := by
  have hSa : swapR R a w a = R w := by simp [swapR]
  have hca : clrR (swapR R a w) a c a = R w := by simp [clrR, hSa]
  constructor
  · refine Span.sub fun r hr => ?_
    obtain ⟨j, hj, rfl⟩ := mem_rowsOf.1 hr
    have hm : ∀ i, i < N → Span (rowsOf R N) (R i) := fun i hi => .mem (mem_rowsOf.2 ⟨i, hi, rfl⟩)
    have hsw : Span (rowsOf R N) (swapR R a w j) := by
      unfold swapR
      split
      · exact hm w h2
      · split
        · exact hm a (by omega)
        · exact hm j hj
    unfold clrR
    split
    · exact hsw
    · rw [hSa]; exact clr_span hsw (hm w h2)
  · refine Span.sub fun r hr => ?_
    obtain ⟨j, hj, rfl⟩ := mem_rowsOf.1 hr
    have hm : ∀ i, i < N → Span (rowsOf (clrR (swapR R a w) a c) N) (clrR (swapR R a w) a c i) := fun i hi => .mem (mem_rowsOf.2 ⟨i, hi, rfl⟩)
    have hp : Span (rowsOf (clrR (swapR R a w) a c) N) (R w) := by have := hm a (by omega); rwa [hca] at this
    have hsw : ∀ i, i < N → i ≠ a → Span (rowsOf (clrR (swapR R a w) a c) N) (swapR R a w i) := fun i hi hne => by
      have := hm i hi
      rw [clrR, if_neg hne, hSa] at this
      exact span_clr this hp
    by_cases e : j = w
    · subst e; exact hp
    · by_cases e' : j = a
      · subst e'
        have := hsw w h2 (fun e' => e e'.symm)
        rwa [swapR, if_neg (fun e' => e e'.symm), if_pos rfl] at this
      · have := hsw j hj e'
        rwa [swapR, if_neg e', if_neg e] at this

/-- those that are in order -/
theorem El.sys {R : Nat → V} {N a c : Nat} {L : Nat → Nat} (h : El R N a c L) : Sys (rowsOf R a) := by
  refine ⟨fun r hr => ?_, ?_⟩
  · obtain ⟨j, hj, rfl⟩ := mem_rowsOf.1 hr
    exact ⟨_, (h.lead j hj).1⟩
  · unfold rowsOf
    rw [List.pairwise_map]
    refine List.Pairwise.imp_of_mem ?_ (List.pairwise_lt_range (n := a))
    intro i j hi hj hij
    have hi : i < a := by simpa using hi
    have hj : j < a := by simpa using hj
    exact ⟨L i, L j, (h.lead i hi).1, (h.lead j hj).1, h.mono i j hij hj, h.apart j hj i (by have := h.le; omega) (by omega)⟩

/-- without its sum -/
def bare (v : V) : V := ⟨v.has, fun _ => 0⟩

theorem bare_add (a b : V) : bare (a.add b) = (bare a).add (bare b) := V.ext' (fun k => rfl) (fun k => by simp [bare, V.add])
theorem bare_o : bare V.o = V.o := rfl

theorem Span.bare {S : List V} {v : V} (h : Span S v) : Span (S.map bare) (bare v) := by
  induction h with
  | o => exact .o
  | step hr _ ih => rw [bare_add]; exact .step (List.mem_map_of_mem hr) ih

theorem span_of_bare {S : List V} {u : V} (h : Span (S.map bare) u) : ∃ v, Span S v ∧ bare v = u := by
  induction h with
  | o => exact ⟨V.o, .o, rfl⟩
  | step hr _ ih =>
    obtain ⟨s, hs, rfl⟩ := List.mem_map.1 hr
    obtain ⟨v, hv, rfl⟩ := ih
    exact ⟨v.add s, .step hs hv, bare_add _ _⟩

theorem Sys.bare {A : List V} (h : Sys A) : Sys (A.map bare) := by
  refine ⟨fun r hr => ?_, ?_⟩
  · obtain ⟨a, ha, rfl⟩ := List.mem_map.1 hr
    exact h.lead a ha
  · rw [List.pairwise_map]
    exact h.pair.imp fun hab => hab

/-- nothing is in it -/
def None' (v : V) : Prop := ∀ k, v.has k = false

theorem bare_none {v : V} (h : None' v) : bare v = V.o := V.ext' (fun k => by rw [show (bare v).has k = v.has k from rfl, h k]; rfl) (fun k => rfl)

theorem Sys.none {A : List V} (h : Sys A) {v : V} (hv : Span A v) (hn : None' v) : v = V.o := h.nought hv fun r hr k hk => hn k

/-- rows in order and one more, brought into order anew -/
structure Anew (n : Nat) (A : List V) (r : V) (R : Nat → V) (a : Nat) (L : Nat → Nat) : Prop where
  el : El R (A.length + 1) a n L
  span : ∀ v, Span (rowsOf R (A.length + 1)) v ↔ Span (A ++ [r]) v

theorem Anew.rest_none {n a : Nat} {A : List V} {r : V} {R : Nat → V} {L : Nat → Nat} (h : Anew n A r R a L) (hA : ∀ s ∈ A, Of n s) (hr : Of n r) : ∀ j, a ≤ j → j < A.length + 1 → None' (R j) := by
  intro j h1 h2 k
  rcases Nat.lt_or_ge k n with hl | hl
  · exact h.el.rest j h1 h2 k hl
  · have hs : Span (A ++ [r]) (R j) := (h.span _).1 (.mem (mem_rowsOf.2 ⟨j, h2, rfl⟩))
    exact hs.of (fun s hs => by rcases List.mem_append.1 hs with hs | hs; exact hA s hs; rw [List.mem_singleton.1 hs]; exact hr) k hl

/-- where the others are nought, those in order span all -/
theorem Anew.all {n a : Nat} {A : List V} {r : V} {R : Nat → V} {L : Nat → Nat} (h : Anew n A r R a L) (hz : ∀ j, a ≤ j → j < A.length + 1 → R j = V.o) (v : V) : Span (rowsOf R a) v ↔ Span (A ++ [r]) v := by
  rw [← h.span]
  constructor
  · refine Span.mono fun x hx => ?_
    obtain ⟨j, hj, rfl⟩ := mem_rowsOf.1 hx
    exact mem_rowsOf.2 ⟨j, by have := h.el.le; omega, rfl⟩
  · refine Span.sub fun x hx => ?_
    obtain ⟨j, hj, rfl⟩ := mem_rowsOf.1 hx
    rcases Nat.lt_or_ge j a with hl | hl
    · exact .mem (mem_rowsOf.2 ⟨j, hl, rfl⟩)
    · rw [hz j hl hj]; exact .o

/-- the row brings something new: what comes is the one order of all -/
theorem Anew.more {n a : Nat} {A P : List V} {r : V} {R : Nat → V} {L : Nat → Nat} (h : Anew n A r R a L) (hA : ∀ s ∈ A, Of n s) (hr : Of n r) (hP : Sys P) (hsp : ∀ v, Span P v ↔ Span (A ++ [r]) v) : rowsOf R a = P := by
  refine h.el.sys.uniq hP fun v => ?_
  rw [hsp]
  refine h.all (fun j h1 h2 => ?_) v
  have hs : Span P (R j) := (hsp _).2 ((h.span _).1 (.mem (mem_rowsOf.2 ⟨j, h2, rfl⟩)))
  exact hP.none hs (h.rest_none hA hr j h1 h2)

/-- how many are in order where the row has no block of its own -/
theorem Anew.count {n a : Nat} {A : List V} {r : V} {R : Nat → V} {L : Nat → Nat} (h : Anew n A r R a L) (hA : ∀ s ∈ A, Of n s) (hr : Of n r) (hS : Sys A) (hp : None' (red n A r)) : a = A.length := by
  have hz := h.rest_none hA hr
  have h1 : (rowsOf R a).map bare = A.map bare := by
    refine h.el.sys.bare.uniq hS.bare fun u => ?_
    have hred : Span A ((red n A r).add r) := red_span n A r
    constructor
    · intro hu
      obtain ⟨v, hv, rfl⟩ := span_of_bare hu
      have hv2 : Span (A ++ [red n A r]) v := (red_same n A r v).1 ((h.span v).1 (hv.mono fun x hx => by
        obtain ⟨j, hj, rfl⟩ := mem_rowsOf.1 hx
        exact mem_rowsOf.2 ⟨j, by have := h.el.le; omega, rfl⟩))
      have hv3 := hv2.bare
      refine hv3.sub fun x hx => ?_
      obtain ⟨y, hy, rfl⟩ := List.mem_map.1 hx
      rcases List.mem_append.1 hy with hy | hy
      · exact .mem (List.mem_map_of_mem hy)
      · rw [List.mem_singleton.1 hy, bare_none hp]; exact .o
    · intro hu
      obtain ⟨v, hv, rfl⟩ := span_of_bare hu
      have hv2 : Span (rowsOf R (A.length + 1)) v := (h.span v).2 (hv.mono fun x hx => List.mem_append_left _ hx)
      refine hv2.bare.sub fun x hx => ?_
      obtain ⟨y, hy, rfl⟩ := List.mem_map.1 hx
      obtain ⟨j, hj, rfl⟩ := mem_rowsOf.1 hy
      rcases Nat.lt_or_ge j a with hl | hl
      · exact .mem (List.mem_map_of_mem (mem_rowsOf.2 ⟨j, hl, rfl⟩))
      · rw [bare_none (hz j hl hj)]; exact .o
  have := congrArg List.length h1
  simpa [rowsOf_length] using this

/-- the row says nothing new -/
theorem Anew.same {n a : Nat} {A : List V} {r : V} {R : Nat → V} {L : Nat → Nat} (h : Anew n A r R a L) (hA : ∀ s ∈ A, Of n s) (hr : Of n r) (hS : Sys A) (hp : red n A r = V.o) : a = A.length ∧ rowsOf R a = A ∧ R A.length = V.o := by
  have hc := h.count hA hr hS (by rw [hp]; exact fun k => rfl)
  have hsp : ∀ v, Span A v ↔ Span (A ++ [r]) v := fun v => by
    rw [red_same n A r v, hp]
    constructor
    · exact Span.mono fun x hx => List.mem_append_left _ hx
    · refine Span.sub fun x hx => ?_
      rcases List.mem_append.1 hx with hx | hx
      · exact .mem hx
      · rw [List.mem_singleton.1 hx]; exact .o
  refine ⟨hc, h.more hA hr hS hsp, ?_⟩
  have hs : Span A (R A.length) := (hsp _).2 ((h.span _).1 (.mem (mem_rowsOf.2 ⟨A.length, by omega, rfl⟩)))
  exact hS.none hs (h.rest_none hA hr A.length (by omega) (by omega))

/-- the row belongs not to them -/
theorem Anew.torn {n a : Nat} {A : List V} {r : V} {R : Nat → V} {L : Nat → Nat} (h : Anew n A r R a L) (hA : ∀ s ∈ A, Of n s) (hr : Of n r) (hS : Sys A) (hp : None' (red n A r)) (hne : red n A r ≠ V.o) : a = A.length ∧ None' (R A.length) ∧ R A.length ≠ V.o := by
  have hc := h.count hA hr hS hp
  refine ⟨hc, h.rest_none hA hr A.length (by omega) (by omega), fun hz => hne ?_⟩
  have hall := h.all (fun j h1 h2 => by obtain rfl : j = A.length := by omega
                                        exact hz)
  have hs : Span (rowsOf R a) (red n A r) := (hall _).2 ((red_same n A r _).2 (.mem (by simp)))
  exact h.el.sys.none hs hp

end Go.Proofs.Ythhhlampphlmgaa
