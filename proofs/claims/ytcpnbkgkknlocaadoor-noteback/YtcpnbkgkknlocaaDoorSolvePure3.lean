/-
  All rows brought into order anew, column by column; and what that makes of rows in order and one row more. Nothing of any program.
-/
import Derived.Test.YtcpnbkgkknlocaaDoorSolvePure2
namespace Go.Proofs.YtcpnbkgkknlocaaDoor
set_option linter.unusedVariables false
set_option linter.unusedSimpArgs false

/-- the rows by their places -/
def rowsOf (R : Nat → V) (n : Nat) : List V := (List.range n).map R

theorem mem_rowsOf {R : Nat → V} {n : Nat} {v : V} : v ∈ rowsOf R n ↔ ∃ j, j < n ∧ R j = v := by simp [rowsOf]

theorem rowsOf_length (R : Nat → V) (n : Nat) : (rowsOf R n).length = n := by simp [rowsOf]

/-- columns below c are done: 'at' rows are in order, with the first blocks L; the others have none of those columns -/
structure El (R : Nat → V) (N at' c : Nat) (L : Nat → Nat) : Prop where
  le : at' ≤ N
  lead : ∀ i, i < at' → Lead (R i) (L i) ∧ L i < c
  mono : ∀ i j, i < j → j < at' → L i < L j
  apart : ∀ i, i < at' → ∀ j, j < N → j ≠ i → (R j).has (L i) = false
  rest : ∀ j, at' ≤ j → j < N → ∀ m, m < c → (R j).has m = false

theorem El.start (R : Nat → V) (N : Nat) : El R N 0 0 (fun _ => 0) := ⟨Nat.zero_le _, fun i h => by omega, fun i j _ h => by omega, fun i h => by omega, fun j _ _ m h => by omega⟩

/-- no row is left that has this column -/
theorem El.pass {R : Nat → V} {N a c : Nat} {L : Nat → Nat} (h : El R N a c L) (hn : ∀ j, a ≤ j → j < N → (R j).has c = false) : El R N a (c + 1) L := by
  refine ⟨h.le, fun i hi => ⟨(h.lead i hi).1, by have := (h.lead i hi).2; omega⟩, h.mono, h.apart, fun j h1 h2 m hm => ?_⟩
  rcases Nat.lt_or_ge m c with hl | hl
  · exact h.rest j h1 h2 m hl
  · obtain rfl : m = c := by omega
    exact hn j h1 h2

/-- two rows change places -/
def swapR (R : Nat → V) (a w : Nat) (j : Nat) : V := if j = a then R w else if j = w then R a else R j

/-- one row is added to the others that have its column -/
def clrR (R : Nat → V) (a c : Nat) (j : Nat) : V := if j = a then R j else clr (R a) c (R j)

theorem El.take {R : Nat → V} {N a c w : Nat} {L : Nat → Nat} (h : El R N a c L) (h1 : a ≤ w) (h2 : w < N) (hw : (R w).has c = true) :
    El (clrR (swapR R a w) a c) N (a + 1) (c + 1) (fun i => if i = a then c else L i) := by
  have hp : Lead (R w) c := ⟨hw, fun m hm => h.rest w h1 h2 m hm⟩
  have hSa : swapR R a w a = R w := by simp [swapR]
  have hlow : ∀ i, i < a → swapR R a w i = R i := fun i hi => by simp [swapR, show ¬ i = a by omega, show ¬ i = w by omega]
  have hhigh : ∀ j, a < j → j < N → ∃ j', a ≤ j' ∧ j' < N ∧ swapR R a w j = R j' := fun j h3 h4 => by
    by_cases e : j = w
    · exact ⟨a, Nat.le_refl _, by omega, by simp [swapR, show ¬ j = a by omega, e]; intro e'; omega⟩
    · exact ⟨j, by omega, h4, by simp [swapR, show ¬ j = a by omega, e]⟩
  have hca : clrR (swapR R a w) a c a = R w := by simp [clrR, hSa]
  have hcl : ∀ i, i < a → clrR (swapR R a w) a c i = clr (R w) c (R i) := fun i hi => by simp [clrR, show ¬ i = a by omega, hSa, hlow i hi]
  have hch : ∀ j, a < j → j < N → ∃ j', a ≤ j' ∧ j' < N ∧ clrR (swapR R a w) a c j = clr (R w) c (R j') := fun j h3 h4 => by
    obtain ⟨j', g1, g2, g3⟩ := hhigh j h3 h4
    exact ⟨j', g1, g2, by simp [clrR, show ¬ j = a by omega, hSa, g3]⟩
  refine ⟨by have := h.le; omega, fun i hi => ?_, fun i j hij hj => ?_, fun i hi j hj hne => ?_, fun j g1 g2 m hm => ?_⟩
  · by_cases e : i = a
    · subst e
      rw [hca, if_pos rfl]
      exact ⟨hp, by omega⟩
    · rw [if_neg e, hcl i (by omega)]
      have hli := h.lead i (by omega)
      exact ⟨clr_lead hp hli.1 (h.apart i (by omega) w h2 (by omega)) (by omega), by omega⟩
  · by_cases e : j = a
    · subst e
      rw [if_pos rfl, if_neg (by omega)]
      exact (h.lead i (by omega)).2
    · rw [if_neg e, if_neg (by omega)]
      exact h.mono i j hij (by omega)
  · by_cases e : i = a
    · subst e
      rw [if_pos rfl]
      rcases Nat.lt_trichotomy j i with g | g | g
      · rw [hcl j g]; exact clr_has hw
      · exact absurd g hne
      · obtain ⟨j', _, _, g3⟩ := hch j g hj
        rw [g3]; exact clr_has hw
    · rw [if_neg e]
      have hz := h.apart i (by omega) w h2 (by omega)
      rcases Nat.lt_trichotomy j a with g | g | g
      · rw [hcl j g, clr_low hz]; exact h.apart i (by omega) j hj hne
      · subst g; rw [hca]; exact hz
      · obtain ⟨j', g1, g2, g3⟩ := hch j g hj
        rw [g3, clr_low hz]; exact h.apart i (by omega) j' g2 (by omega)
  · obtain ⟨j', g1', g2', g3⟩ := hch j (by omega) g2
    rw [g3]
    rcases Nat.lt_or_ge m c with hl | hl
    · rw [clr_low (h.rest w h1 h2 m hl)]; exact h.rest j' g1' g2' m hl
    · obtain rfl : m = c := by omega
      exact clr_has hw

/-- .. and they span what they spanned -/
theorem take_span {R : Nat → V} {N a c w : Nat} (h1 : a ≤ w) (h2 : w < N) (v : V) : Span (rowsOf (clrR (swapR R a w) a c) N) v ↔ Span (rowsOf R N) v := by
  have hSa : swapR R a w a = R w := by simp [swapR]
  have hca : clrR (swapR R a w) a c a = R w := by simp [clrR, hSa]
  constructor
  · refine Span.sub fun r hr => ?_
    obtain ⟨j, hj, rfl⟩ := mem_rowsOf.1 hr
    have hm : ∀ i, i < N → Span (rowsOf R N) (R i) := fun i hi => .mem (mem_rowsOf.2 ⟨i, hi, rfl⟩)
    have hsw : Span (rowsOf R N) (swapR R a w j) := by
      unfold swapR
      split
      · exact hm w h2
      · split
        · exact hm a (by omega)
        · exact hm j hj
    unfold clrR
    split
    · exact hsw
    · rw [hSa]; exact clr_span hsw (hm w h2)
  · refine Span.sub fun r hr => ?_
    obtain ⟨j, hj, rfl⟩ := mem_rowsOf.1 hr
    have hm : ∀ i, i < N → Span (rowsOf (clrR (swapR R a w) a c) N) (clrR (swapR R a w) a c i) := fun i hi => .mem (mem_rowsOf.2 ⟨i, hi, rfl⟩)
    have hp : Span (rowsOf (clrR (swapR R a w) a c) N) (R w) := by have := hm a (by omega); rwa [hca] at this
    have hsw : ∀ i, i < N → i ≠ a → Span (rowsOf (clrR (swapR R a w) a c) N) (swapR R a w i) := fun i hi hne => by
      have := hm i hi
      rw [clrR, if_neg hne, hSa] at this
      exact span_clr this hp
    by_cases e : j = w
    · subst e; exact hp
    · by_cases e' : j = a
      · subst e'
        have := hsw w h2 (fun e' => e e'.symm)
        rwa [swapR, if_neg (fun e' => e e'.symm), if_pos rfl] at this
      · have := hsw j hj e'
        rwa [swapR, if_neg e', if_neg e] at this

/-- those that are in order -/
theorem El.sys {R : Nat → V} {N a c : Nat} {L : Nat → Nat} (h : El R N a c L) : Sys (rowsOf R a) := by
  refine ⟨fun r hr => ?_, ?_⟩
  · obtain ⟨j, hj, rfl⟩ := mem_rowsOf.1 hr
    exact ⟨_, (h.lead j hj).1⟩
  · unfold rowsOf
    rw [List.pairwise_map]
    refine List.Pairwise.imp_of_mem ?_ (List.pairwise_lt_range (n := a))
    intro i j hi hj hij
    have hi : i < a := by simpa using hi
    have hj : j < a := by simpa using hj
    exact ⟨L i, L j, (h.lead i hi).1, (h.lead j hj).1, h.mono i j hij hj, h.apart j hj i (by have := h.le; omega) (by omega)⟩

/-- without its sum -/
def bare (v : V) : V := ⟨v.has, fun _ => 0⟩

theorem bare_add (a b : V) : bare (a.add b) = (bare a).add (bare b) := V.ext' (fun k => rfl) (fun k => by simp [bare, V.add])
theorem bare_o : bare V.o = V.o := rfl

theorem Span.bare {S : List V} {v : V} (h : Span S v) : Span (S.map bare) (bare v) := by
  induction h with
  | o => exact .o
  | step hr _ ih => rw [bare_add]; exact .step (List.mem_map_of_mem hr) ih

theorem span_of_bare {S : List V} {u : V} (h : Span (S.map bare) u) : ∃ v, Span S v ∧ bare v = u := by
  induction h with
  | o => exact ⟨V.o, .o, rfl⟩
  | step hr _ ih =>
    obtain ⟨s, hs, rfl⟩ := List.mem_map.1 hr
    obtain ⟨v, hv, rfl⟩ := ih
    exact ⟨v.add s, .step hs hv, bare_add _ _⟩

theorem Sys.bare {A : List V} (h : Sys A) : Sys (A.map bare) := by
  refine ⟨fun r hr => ?_, ?_⟩
  · obtain ⟨a, ha, rfl⟩ := List.mem_map.1 hr
    exact h.lead a ha
  · rw [List.pairwise_map]
    exact h.pair.imp fun hab => hab

/-- nothing is in it -/
def None' (v : V) : Prop := ∀ k, v.has k = false

theorem bare_none {v : V} (h : None' v) : bare v = V.o := V.ext' (fun k => by rw [show (bare v).has k = v.has k from rfl, h k]; rfl) (fun k => rfl)

theorem Sys.none {A : List V} (h : Sys A) {v : V} (hv : Span A v) (hn : None' v) : v = V.o := h.nought hv fun r hr k hk => hn k

/-- rows in order and one more, brought into order anew -/
structure Anew (n : Nat) (A : List V) (r : V) (R : Nat → V) (a : Nat) (L : Nat → Nat) : Prop where
  el : El R (A.length + 1) a n L
  span : ∀ v, Span (rowsOf R (A.length + 1)) v ↔ Span (A ++ [r]) v

theorem Anew.rest_none {n a : Nat} {A : List V} {r : V} {R : Nat → V} {L : Nat → Nat} (h : Anew n A r R a L) (hA : ∀ s ∈ A, Of n s) (hr : Of n r) : ∀ j, a ≤ j → j < A.length + 1 → None' (R j) := by
  intro j h1 h2 k
  rcases Nat.lt_or_ge k n with hl | hl
  · exact h.el.rest j h1 h2 k hl
  · have hs : Span (A ++ [r]) (R j) := (h.span _).1 (.mem (mem_rowsOf.2 ⟨j, h2, rfl⟩))
    exact hs.of (fun s hs => by rcases List.mem_append.1 hs with hs | hs; exact hA s hs; rw [List.mem_singleton.1 hs]; exact hr) k hl

/-- where the others are nought, those in order span all -/
theorem Anew.all {n a : Nat} {A : List V} {r : V} {R : Nat → V} {L : Nat → Nat} (h : Anew n A r R a L) (hz : ∀ j, a ≤ j → j < A.length + 1 → R j = V.o) (v : V) : Span (rowsOf R a) v ↔ Span (A ++ [r]) v := by
  rw [← h.span]
  constructor
  · refine Span.mono fun x hx => ?_
    obtain ⟨j, hj, rfl⟩ := mem_rowsOf.1 hx
    exact mem_rowsOf.2 ⟨j, by have := h.el.le; omega, rfl⟩
  · refine Span.sub fun x hx => ?_
    obtain ⟨j, hj, rfl⟩ := mem_rowsOf.1 hx
    rcases Nat.lt_or_ge j a with hl | hl
    · exact .mem (mem_rowsOf.2 ⟨j, hl, rfl⟩)
    · rw [hz j hl hj]; exact .o

/-- the row brings something new: what comes is the one order of all -/
theorem Anew.more {n a : Nat} {A P : List V} {r : V} {R : Nat → V} {L : Nat → Nat} (h : Anew n A r R a L) (hA : ∀ s ∈ A, Of n s) (hr : Of n r) (hP : Sys P) (hsp : ∀ v, Span P v ↔ Span (A ++ [r]) v) : rowsOf R a = P := by
  refine h.el.sys.uniq hP fun v => ?_
  rw [hsp]
  refine h.all (fun j h1 h2 => ?_) v
  have hs : Span P (R j) := (hsp _).2 ((h.span _).1 (.mem (mem_rowsOf.2 ⟨j, h2, rfl⟩)))
  exact hP.none hs (h.rest_none hA hr j h1 h2)

/-- how many are in order where the row has no block of its own -/
theorem Anew.count {n a : Nat} {A : List V} {r : V} {R : Nat → V} {L : Nat → Nat} (h : Anew n A r R a L) (hA : ∀ s ∈ A, Of n s) (hr : Of n r) (hS : Sys A) (hp : None' (red n A r)) : a = A.length := by
  have hz := h.rest_none hA hr
  have h1 : (rowsOf R a).map bare = A.map bare := by
    refine h.el.sys.bare.uniq hS.bare fun u => ?_
    have hred : Span A ((red n A r).add r) := red_span n A r
    constructor
    · intro hu
      obtain ⟨v, hv, rfl⟩ := span_of_bare hu
      have hv2 : Span (A ++ [red n A r]) v := (red_same n A r v).1 ((h.span v).1 (hv.mono fun x hx => by
        obtain ⟨j, hj, rfl⟩ := mem_rowsOf.1 hx
        exact mem_rowsOf.2 ⟨j, by have := h.el.le; omega, rfl⟩))
      have hv3 := hv2.bare
      refine hv3.sub fun x hx => ?_
      obtain ⟨y, hy, rfl⟩ := List.mem_map.1 hx
      rcases List.mem_append.1 hy with hy | hy
      · exact .mem (List.mem_map_of_mem hy)
      · rw [List.mem_singleton.1 hy, bare_none hp]; exact .o
    · intro hu
      obtain ⟨v, hv, rfl⟩ := span_of_bare hu
      have hv2 : Span (rowsOf R (A.length + 1)) v := (h.span v).2 (hv.mono fun x hx => List.mem_append_left _ hx)
      refine hv2.bare.sub fun x hx => ?_
      obtain ⟨y, hy, rfl⟩ := List.mem_map.1 hx
      obtain ⟨j, hj, rfl⟩ := mem_rowsOf.1 hy
      rcases Nat.lt_or_ge j a with hl | hl
      · exact .mem (List.mem_map_of_mem (mem_rowsOf.2 ⟨j, hl, rfl⟩))
      · rw [bare_none (hz j hl hj)]; exact .o
  have := congrArg List.length h1
  simpa [rowsOf_length] using this

/-- the row says nothing new -/
theorem Anew.same {n a : Nat} {A : List V} {r : V} {R : Nat → V} {L : Nat → Nat} (h : Anew n A r R a L) (hA : ∀ s ∈ A, Of n s) (hr : Of n r) (hS : Sys A) (hp : red n A r = V.o) : a = A.length ∧ rowsOf R a = A ∧ R A.length = V.o := by
  have hc := h.count hA hr hS (by rw [hp]; exact fun k => rfl)
  have hsp : ∀ v, Span A v ↔ Span (A ++ [r]) v := fun v => by
    rw [red_same n A r v, hp]
    constructor
    · exact Span.mono fun x hx => List.mem_append_left _ hx
    · refine Span.sub fun x hx => ?_
      rcases List.mem_append.1 hx with hx | hx
      · exact .mem hx
      · rw [List.mem_singleton.1 hx]; exact .o
  refine ⟨hc, h.more hA hr hS hsp, ?_⟩
  have hs : Span A (R A.length) := (hsp _).2 ((h.span _).1 (.mem (mem_rowsOf.2 ⟨A.length, by omega, rfl⟩)))
  exact hS.none hs (h.rest_none hA hr A.length (by omega) (by omega))

/-- the row belongs not to them -/
theorem Anew.torn {n a : Nat} {A : List V} {r : V} {R : Nat → V} {L : Nat → Nat} (h : Anew n A r R a L) (hA : ∀ s ∈ A, Of n s) (hr : Of n r) (hS : Sys A) (hp : None' (red n A r)) (hne : red n A r ≠ V.o) : a = A.length ∧ None' (R A.length) ∧ R A.length ≠ V.o := by
  have hc := h.count hA hr hS hp
  refine ⟨hc, h.rest_none hA hr A.length (by omega) (by omega), fun hz => hne ?_⟩
  have hall := h.all (fun j h1 h2 => by obtain rfl : j = A.length := by omega
                                        exact hz)
  have hs : Span (rowsOf R a) (red n A r) := (hall _).2 ((red_same n A r _).2 (.mem (by simp)))
  exact h.el.sys.none hs hp

end Go.Proofs.YtcpnbkgkknlocaaDoor
