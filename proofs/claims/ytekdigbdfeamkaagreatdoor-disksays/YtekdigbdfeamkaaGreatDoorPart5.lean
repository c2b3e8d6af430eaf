import Derived.Test.YtekdigbdfeamkaaGreatDoorPart4
/-
  A row added to rows in order: brought down by them, put among them; and all rows brought into order anew, column by column: both end in the same rows. Nothing of any program.
-/
namespace Go.Proofs.YtekdigbdfeamkaaGreatDoor
set_option linter.unusedVariables false
set_option linter.unusedSimpArgs false

/-- a row's first block of n; n, if it has none -/
def fst (n : Nat) (v : V) : Nat := (List.range n).findIdx fun k => v.has k

theorem fst_lead {n : Nat} {v : V} {k : Nat} (h : Lead v k) (hk : k < n) : fst n v = k := by
  unfold fst
  rw [List.findIdx_eq (by simpa using hk)]
  refine ⟨by simpa using h.1, fun j hj => ?_⟩
  simpa using h.2 j hj

theorem lead_fst {n : Nat} {v : V} (h : fst n v < n) : Lead v (fst n v) := by
  unfold fst at h ⊢
  have h1 : (List.range n).findIdx (fun k => v.has k) < (List.range n).length := by simpa using h
  refine ⟨by simpa using List.findIdx_getElem (w := h1), fun j hj => ?_⟩
  have := List.not_of_lt_findIdx hj
  simpa using this

theorem fst_le (n : Nat) (v : V) : fst n v ≤ n := by
  have := List.findIdx_le_length (p := fun k => v.has k) (xs := List.range n)
  simpa [fst] using this

theorem fst_none {n : Nat} {v : V} : fst n v = n ↔ ∀ k, k < n → v.has k = false := by
  constructor
  · intro h k hk
    have : k < (List.range n).findIdx (fun k => v.has k) := by unfold fst at h; omega
    simpa using List.not_of_lt_findIdx this
  · intro h
    rcases Nat.lt_or_ge (fst n v) n with hl | hl
    · have := (lead_fst hl).1
      rw [h _ hl] at this
      cases this
    · have := fst_le n v
      omega

/-- of so many blocks -/
def Of (n : Nat) (v : V) : Prop := ∀ k, n ≤ k → v.has k = false

theorem Of.add {n : Nat} {a b : V} (ha : Of n a) (hb : Of n b) : Of n (a.add b) := fun k hk => by rw [V.has_add, ha k hk, hb k hk]; rfl

theorem Of.lead {n : Nat} {v : V} (h : Of n v) {k : Nat} (hk : Lead v k) : k < n := by
  rcases Nat.lt_or_ge k n with hl | hl
  · exact hl
  · have := hk.1
    rw [h k hl] at this
    cases this

theorem Span.of {n : Nat} {S : List V} (h : ∀ r ∈ S, Of n r) {v : V} (hv : Span S v) : Of n v := fun k hk => hv.nought fun r hr => h r hr k hk

/-- a row, each row added whose first block it has -/
def red (n : Nat) (A : List V) (v : V) : V := A.foldl (fun v s => if v.has (fst n s) = true then v.add s else v) v

theorem red_nil (n : Nat) (v : V) : red n [] v = v := rfl
theorem red_cons (n : Nat) (a : V) (A : List V) (v : V) : red n (a :: A) v = red n A (if v.has (fst n a) = true then v.add a else v) := rfl

theorem red_snoc (n : Nat) (A : List V) (a v : V) : red n (A ++ [a]) v = if (red n A v).has (fst n a) = true then (red n A v).add a else red n A v := by
  unfold red
  rw [List.foldl_append]
  rfl

theorem red_span (n : Nat) (A : List V) (v : V) : Span A ((red n A v).add v) := by
  induction A generalizing v with
  | nil => rw [red_nil, V.add_self]; exact .o
  | cons a A ih =>
    rw [red_cons]
    split
    · have h1 := (ih (v.add a)).mono (T := a :: A) fun r hr => List.mem_cons_of_mem _ hr
      have h2 := h1.add (.mem (List.mem_cons_self (a := a) (l := A)))
      rwa [V.add_assoc, V.add_add] at h2
    · exact (ih v).mono fun r hr => List.mem_cons_of_mem _ hr

theorem red_keep {n : Nat} {A : List V} {k : Nat} (h : ∀ s ∈ A, s.has k = false) (v : V) : (red n A v).has k = v.has k := by
  induction A generalizing v with
  | nil => rfl
  | cons a A ih =>
    rw [red_cons, ih (fun s hs => h s (List.mem_cons_of_mem _ hs))]
    split
    · rw [V.has_add, h a List.mem_cons_self]; simp
    · rfl

theorem red_clear {n : Nat} {A : List V} (hA : Sys A) (hn : ∀ r ∈ A, Of n r) (v : V) : ∀ r ∈ A, ∀ k, Lead r k → (red n A v).has k = false := by
  induction A generalizing v with
  | nil => intro r hr; simp at hr
  | cons a A ih =>
    intro r hr k hk
    rcases List.mem_cons.1 hr with rfl | hr'
    · rw [red_cons, fst_lead hk ((hn r List.mem_cons_self).lead hk), red_keep]
      · cases hh : v.has k
        · simp [hh]
        · simp [V.has_add, hh, hk.1]
      · intro s hs
        obtain ⟨i, j, l1, l2, hlt, _⟩ := hA.ahead s hs
        have := l1.one hk
        subst this
        exact l2.2 _ hlt
    · rw [red_cons]
      exact ih hA.tail (fun s hs => hn s (List.mem_cons_of_mem _ hs)) _ r hr' k hk

theorem red_of {n : Nat} {A : List V} (hn : ∀ r ∈ A, Of n r) {v : V} (hv : Of n v) : Of n (red n A v) := by
  have h := (red_span n A v).of hn
  have := h.add hv
  rwa [V.add_add] at this

/-- with the row as with what is left of it -/
theorem red_same (n : Nat) (A : List V) (r v : V) : Span (A ++ [r]) v ↔ Span (A ++ [red n A r]) v := by
  have hs := red_span n A r
  have h1 : Span (A ++ [red n A r]) r := by
    have h := (hs.mono (T := A ++ [red n A r]) fun x hx => List.mem_append_left _ hx).add (.mem (r := red n A r) (by simp))
    rw [V.add_comm, ← V.add_assoc, V.add_self, V.o_add] at h
    exact h
  have h2 : Span (A ++ [r]) (red n A r) := by
    have h := (hs.mono (T := A ++ [r]) fun x hx => List.mem_append_left _ hx).add (.mem (r := r) (by simp))
    rwa [V.add_add] at h
  constructor
  · refine Span.sub fun x hx => ?_
    rcases List.mem_append.1 hx with hx | hx
    · exact .mem (List.mem_append_left _ hx)
    · rw [List.mem_singleton.1 hx]; exact h1
  · refine Span.sub fun x hx => ?_
    rcases List.mem_append.1 hx with hx | hx
    · exact .mem (List.mem_append_left _ hx)
    · rw [List.mem_singleton.1 hx]; exact h2

/-- what a row becomes behind a new one of which it has the first block -/
def clr (p : V) (k : Nat) (s : V) : V := if s.has k = true then s.add p else s

theorem clr_has {p s : V} {k : Nat} (hp : p.has k = true) : (clr p k s).has k = false := by
  unfold clr
  split
  · rename_i h; rw [V.has_add, h, hp]; rfl
  · rename_i h; simpa using h

theorem clr_low {p s : V} {k j : Nat} (hj : p.has j = false) : (clr p k s).has j = s.has j := by
  unfold clr
  split
  · rw [V.has_add, hj]; simp
  · rfl

theorem clr_lead {p s : V} {k j : Nat} (hp : Lead p k) (hs : Lead s j) (hj : p.has j = false) (hne : j ≠ k) : Lead (clr p k s) j := by
  rcases Nat.lt_or_ge j k with hl | hl
  · refine ⟨by rw [clr_low hj]; exact hs.1, fun i hi => ?_⟩
    rw [clr_low (hp.2 i (by omega))]
    exact hs.2 i hi
  · have h : s.has k = false := hs.2 k (by omega)
    unfold clr
    rw [if_neg (by simp [h])]
    exact hs

/-- a new row stands among them -/
theorem Sys.insert {X Y : List V} {p : V} {k : Nat} (h : Sys (X ++ Y)) (hp : Lead p k) (hz : ∀ r ∈ X ++ Y, ∀ j, Lead r j → p.has j = false)
    (hX : ∀ r ∈ X, ∃ j, j < k ∧ Lead r j) (hY : ∀ r ∈ Y, ∃ j, k < j ∧ Lead r j) : Sys (X.map (clr p k) ++ p :: Y.map (clr p k)) := by
  have hP := List.pairwise_append.1 h.pair
  have hc : ∀ a ∈ X ++ Y, ∀ b ∈ X ++ Y, Ahead a b → Ahead (clr p k a) (clr p k b) := by
    rintro a ha b hb ⟨i, j, l1, l2, hlt, hf⟩
    have z1 := hz a ha i l1
    have z2 := hz b hb j l2
    have n1 : i ≠ k := fun e => by subst e; rw [hp.1] at z1; cases z1
    have n2 : j ≠ k := fun e => by subst e; rw [hp.1] at z2; cases z2
    exact ⟨i, j, clr_lead hp l1 z1 n1, clr_lead hp l2 z2 n2, hlt, by rw [clr_low z2]; exact hf⟩
  have hl : ∀ a ∈ X ++ Y, ∃ i, Lead (clr p k a) i := fun a ha => by
    obtain ⟨i, hi⟩ := h.lead a ha
    have z := hz a ha i hi
    exact ⟨i, clr_lead hp hi z fun e => by subst e; rw [hp.1] at z; cases z⟩
  refine ⟨fun r hr => ?_, ?_⟩
  · rcases List.mem_append.1 hr with hr | hr
    · obtain ⟨a, ha, rfl⟩ := List.mem_map.1 hr
      exact hl a (List.mem_append_left _ ha)
    · rcases List.mem_cons.1 hr with rfl | hr
      · exact ⟨k, hp⟩
      · obtain ⟨a, ha, rfl⟩ := List.mem_map.1 hr
        exact hl a (List.mem_append_right _ ha)
  · rw [List.pairwise_append, List.pairwise_cons]
    refine ⟨?_, ⟨?_, ?_⟩, ?_⟩
    · rw [List.pairwise_map]
      exact hP.1.imp_of_mem fun ha hb hab => hc _ (List.mem_append_left _ ha) _ (List.mem_append_left _ hb) hab
    · intro b hb
      obtain ⟨a, ha, rfl⟩ := List.mem_map.1 hb
      obtain ⟨j, hj, hl'⟩ := hY a ha
      have z := hz a (List.mem_append_right _ ha) j hl'
      exact ⟨k, j, hp, clr_lead hp hl' z (by omega), hj, z⟩
    · rw [List.pairwise_map]
      exact hP.2.1.imp_of_mem fun ha hb hab => hc _ (List.mem_append_right _ ha) _ (List.mem_append_right _ hb) hab
    · intro a ha b hb
      obtain ⟨a', ha', rfl⟩ := List.mem_map.1 ha
      rcases List.mem_cons.1 hb with rfl | hb
      · obtain ⟨j, hj, hl'⟩ := hX a' ha'
        have z := hz a' (List.mem_append_left _ ha') j hl'
        exact ⟨j, k, clr_lead hp hl' z (by omega), hp, hj, clr_has hp.1⟩
      · obtain ⟨b', hb', rfl⟩ := List.mem_map.1 hb
        exact hc _ (List.mem_append_left _ ha') _ (List.mem_append_right _ hb') (hP.2.2 a' ha' b' hb')

theorem clr_span {S : List V} {p s : V} {k : Nat} (hs : Span S s) (hp : Span S p) : Span S (clr p k s) := by
  unfold clr
  split
  · exact hs.add hp
  · exact hs

theorem span_clr {S : List V} {p s : V} {k : Nat} (hs : Span S (clr p k s)) (hp : Span S p) : Span S s := by
  unfold clr at hs
  split at hs
  · have := hs.add hp
    rwa [V.add_add] at this
  · exact hs

/-- .. and spans with them what they and it span -/
theorem insert_span (X Y : List V) (p : V) (k : Nat) (v : V) : Span (X.map (clr p k) ++ p :: Y.map (clr p k)) v ↔ Span (X ++ Y ++ [p]) v := by
  constructor
  · refine Span.sub fun r hr => ?_
    have hp : Span (X ++ Y ++ [p]) p := .mem (by simp)
    rcases List.mem_append.1 hr with hr | hr
    · obtain ⟨a, ha, rfl⟩ := List.mem_map.1 hr
      exact clr_span (.mem (by simp [ha])) hp
    · rcases List.mem_cons.1 hr with rfl | hr
      · exact hp
      · obtain ⟨a, ha, rfl⟩ := List.mem_map.1 hr
        exact clr_span (.mem (by simp [ha])) hp
  · refine Span.sub fun r hr => ?_
    have hp : Span (X.map (clr p k) ++ p :: Y.map (clr p k)) p := .mem (by simp)
    rcases List.mem_append.1 hr with hr | hr
    · rcases List.mem_append.1 hr with hr | hr
      · exact span_clr (k := k) (.mem (List.mem_append_left _ (List.mem_map_of_mem hr))) hp
      · exact span_clr (k := k) (.mem (List.mem_append_right _ (List.mem_cons_of_mem _ (List.mem_map_of_mem hr)))) hp
    · rw [List.mem_singleton.1 hr]; exact hp

end Go.Proofs.YtekdigbdfeamkaaGreatDoor

/-
  All rows brought into order anew, column by column; and what that makes of rows in order and one row more. Nothing of any program.
-/
namespace Go.Proofs.YtekdigbdfeamkaaGreatDoor
set_option linter.unusedVariables false
set_option linter.unusedSimpArgs false

/-- the rows by their places -/
def rowsOf (R : Nat → V) (n : Nat) : List V := (List.range n).map R

theorem mem_rowsOf {R : Nat → V} {n : Nat} {v : V} : v ∈ rowsOf R n ↔ ∃ j, j < n ∧ R j = v := by simp [rowsOf]

theorem rowsOf_length (R : Nat → V) (n : Nat) : (rowsOf R n).length = n := by simp [rowsOf]

/-- columns below c are done: 'at' rows are in order, with the first blocks L; the others have none of those columns -/
structure El (R : Nat → V) (N at' c : Nat) (L : Nat → Nat) : Prop where
  le : at' ≤ N
  lead : ∀ i, i < at' → Lead (R i) (L i) ∧ L i < c
  mono : ∀ i j, i < j → j < at' → L i < L j
  apart : ∀ i, i < at' → ∀ j, j < N → j ≠ i → (R j).has (L i) = false
  rest : ∀ j, at' ≤ j → j < N → ∀ m, m < c → (R j).has m = false

theorem El.start (R : Nat → V) (N : Nat) : El R N 0 0 (fun _ => 0) := ⟨Nat.zero_le _, fun i h => by omega, fun i j _ h => by omega, fun i h => by omega, fun j _ _ m h => by omega⟩

/-- no row is left that has this column -/
theorem El.pass {R : Nat → V} {N a c : Nat} {L : Nat → Nat} (h : El R N a c L) (hn : ∀ j, a ≤ j → j < N → (R j).has c = false) : El R N a (c + 1) L := by
  refine ⟨h.le, fun i hi => ⟨(h.lead i hi).1, by have := (h.lead i hi).2; omega⟩, h.mono, h.apart, fun j h1 h2 m hm => ?_⟩
  rcases Nat.lt_or_ge m c with hl | hl
  · exact h.rest j h1 h2 m hl
  · obtain rfl : m = c := by omega
    exact hn j h1 h2

/-- two rows change places -/
def swapR (R : Nat → V) (a w : Nat) (j : Nat) : V := if j = a then R w else if j = w then R a else R j

/-- one row is added to the others that have its column -/
def clrR (R : Nat → V) (a c : Nat) (j : Nat) : V := if j = a then R j else clr (R a) c (R j)

theorem El.take {R : Nat → V} {N a c w : Nat} {L : Nat → Nat} (h : El R N a c L) (h1 : a ≤ w) (h2 : w < N) (hw : (R w).has c = true) :
    El (clrR (swapR R a w) a c) N (a + 1) (c + 1) (fun i => if i = a then c else L i) := by
  have hp : Lead (R w) c := ⟨hw, fun m hm => h.rest w h1 h2 m hm⟩
  have hSa : swapR R a w a = R w := by simp [swapR]
  have hlow : ∀ i, i < a → swapR R a w i = R i := fun i hi => by simp [swapR, show ¬ i = a by omega, show ¬ i = w by omega]
  have hhigh : ∀ j, a < j → j < N → ∃ j', a ≤ j' ∧ j' < N ∧ swapR R a w j = R j' := fun j h3 h4 => by
    by_cases e : j = w
    · exact ⟨a, Nat.le_refl _, by omega, by simp [swapR, show ¬ j = a by omega, e]; intro e'; omega⟩
    · exact ⟨j, by omega, h4, by simp [swapR, show ¬ j = a by omega, e]⟩
  have hca : clrR (swapR R a w) a c a = R w := by simp [clrR, hSa]
  have hcl : ∀ i, i < a → clrR (swapR R a w) a c i = clr (R w) c (R i) := fun i hi => by simp [clrR, show ¬ i = a by omega, hSa, hlow i hi]
  have hch : ∀ j, a < j → j < N → ∃ j', a ≤ j' ∧ j' < N ∧ clrR (swapR R a w) a c j = clr (R w) c (R j') := fun j h3 h4 => by
    obtain ⟨j', g1, g2, g3⟩ := hhigh j h3 h4
    exact ⟨j', g1, g2, by simp [clrR, show ¬ j = a by omega, hSa, g3]⟩
  refine ⟨by have := h.le; omega, fun i hi => ?_, fun i j hij hj => ?_, fun i hi j hj hne => ?_, fun j g1 g2 m hm => ?_⟩
  · by_cases e : i = a
    · subst e
      rw [hca, if_pos rfl]
      exact ⟨hp, by omega⟩
    · rw [if_neg e, hcl i (by omega)]
      have hli := h.lead i (by omega)
      exact ⟨clr_lead hp hli.1 (h.apart i (by omega) w h2 (by omega)) (by omega), by omega⟩
  · by_cases e : j = a
    · subst e
      rw [if_pos rfl, if_neg (by omega)]
      exact (h.lead i (by omega)).2
    · rw [if_neg e, if_neg (by omega)]
      exact h.mono i j hij (by omega)
  · by_cases e : i = a
    · subst e
      rw [if_pos rfl]
      rcases Nat.lt_trichotomy j i with g | g | g
      · rw [hcl j g]; exact clr_has hw
      · exact absurd g hne
      · obtain ⟨j', _, _, g3⟩ := hch j g hj
        rw [g3]; exact clr_has hw
    · rw [if_neg e]
      have hz := h.apart i (by omega) w h2 (by omega)
      rcases Nat.lt_trichotomy j a with g | g | g
      · rw [hcl j g, clr_low hz]; exact h.apart i (by omega) j hj hne
      · subst g; rw [hca]; exact hz
      · obtain ⟨j', g1, g2, g3⟩ := hch j g hj
        rw [g3, clr_low hz]; exact h.apart i (by omega) j' g2 (by omega)
  · obtain ⟨j', g1', g2', g3⟩ := hch j (by omega) g2
    rw [g3]
    rcases Nat.lt_or_ge m c with hl | hl
    · rw [clr_low (h.rest w h1 h2 m hl)]; exact h.rest j' g1' g2' m hl
    · obtain rfl : m = c := by omega
      exact clr_has hw

/-- .. and they span what they spanned -/
theorem take_span {R : Nat → V} {N a c w : Nat} (h1 : a ≤ w) (h2 : w < N) (v : V) : Span (rowsOf (clrR (swapR R a w) a c) N) v ↔ Span (rowsOf R N) v := by
  have hSa : swapR R a w a = R w := by simp [swapR]
  have hca : clrR (swapR R a w) a c a = R w := by simp [clrR, hSa]
  constructor
  · refine Span.sub fun r hr => ?_
    obtain ⟨j, hj, rfl⟩ := mem_rowsOf.1 hr
    have hm : ∀ i, i < N → Span (rowsOf R N) (R i) := fun i hi => .mem (mem_rowsOf.2 ⟨i, hi, rfl⟩)
    have hsw : Span (rowsOf R N) (swapR R a w j) := by
      unfold swapR
      split
      · exact hm w h2
      · split
        · exact hm a (by omega)
        · exact hm j hj
    unfold clrR
    split
    · exact hsw
    · rw [hSa]; exact clr_span hsw (hm w h2)
  · refine Span.sub fun r hr => ?_
    obtain ⟨j, hj, rfl⟩ := mem_rowsOf.1 hr
    have hm : ∀ i, i < N → Span (rowsOf (clrR (swapR R a w) a c) N) (clrR (swapR R a w) a c i) := fun i hi => .mem (mem_rowsOf.2 ⟨i, hi, rfl⟩)
    have hp : Span (rowsOf (clrR (swapR R a w) a c) N) (R w) := by have := hm a (by omega); rwa [hca] at this
    have hsw : ∀ i, i < N → i ≠ a → Span (rowsOf (clrR (swapR R a w) a c) N) (swapR R a w i) := fun i hi hne => by
      have := hm i hi
      rw [clrR, if_neg hne, hSa] at this
      exact span_clr this hp
    by_cases e : j = w
    · subst e; exact hp
    · by_cases e' : j = a
      · subst e'
        have := hsw w h2 (fun e' => e e'.symm)
        rwa [swapR, if_neg (fun e' => e e'.symm), if_pos rfl] at this
      · have := hsw j hj e'
        rwa [swapR, if_neg e', if_neg e] at this

/-- those that are in order -/
theorem El.sys {R : Nat → V} {N a c : Nat} {L : Nat → Nat} (h : El R N a c L) : Sys (rowsOf R a) := by
  refine ⟨fun r hr => ?_, ?_⟩
  · obtain ⟨j, hj, rfl⟩ := mem_rowsOf.1 hr
    exact ⟨_, (h.lead j hj).1⟩
  · unfold rowsOf
    rw [List.pairwise_map]
    refine List.Pairwise.imp_of_mem ?_ (List.pairwise_lt_range (n := a))
    intro i j hi hj hij
    have hi : i < a := by simpa using hi
    have hj : j < a := by simpa using hj
    exact ⟨L i, L j, (h.lead i hi).1, (h.lead j hj).1, h.mono i j hij hj, h.apart j hj i (by have := h.le; omega) (by omega)⟩

/-- without its sum -/
def bare (v : V) : V := ⟨v.has, fun _ => 0⟩

theorem bare_add (a b : V) : bare (a.add b) = (bare a).add (bare b) := V.ext' (fun k => rfl) (fun k => by simp [bare, V.add])
theorem bare_o : bare V.o = V.o := rfl

theorem Span.bare {S : List V} {v : V} (h : Span S v) : Span (S.map bare) (bare v) := by
  induction h with
  | o => exact .o
  | step hr _ ih => rw [bare_add]; exact .step (List.mem_map_of_mem hr) ih

theorem span_of_bare {S : List V} {u : V} (h : Span (S.map bare) u) : ∃ v, Span S v ∧ bare v = u := by
  induction h with
  | o => exact ⟨V.o, .o, rfl⟩
  | step hr _ ih =>
    obtain ⟨s, hs, rfl⟩ := List.mem_map.1 hr
    obtain ⟨v, hv, rfl⟩ := ih
    exact ⟨v.add s, .step hs hv, bare_add _ _⟩

theorem Sys.bare {A : List V} (h : Sys A) : Sys (A.map bare) := by
  refine ⟨fun r hr => ?_, ?_⟩
  · obtain ⟨a, ha, rfl⟩ := List.mem_map.1 hr
    exact h.lead a ha
  · rw [List.pairwise_map]
    exact h.pair.imp fun hab => hab

/-- nothing is in it -/
def None' (v : V) : Prop := ∀ k, v.has k = false

theorem bare_none {v : V} (h : None' v) : bare v = V.o := V.ext' (fun k => by rw [show (bare v).has k = v.has k from rfl, h k]; rfl) (fun k => rfl)

theorem Sys.none {A : List V} (h : Sys A) {v : V} (hv : Span A v) (hn : None' v) : v = V.o := h.nought hv fun r hr k hk => hn k

/-- rows in order and one more, brought into order anew -/
structure Anew (n : Nat) (A : List V) (r : V) (R : Nat → V) (a : Nat) (L : Nat → Nat) : Prop where
  el : El R (A.length + 1) a n L
  span : ∀ v, Span (rowsOf R (A.length + 1)) v ↔ Span (A ++ [r]) v

theorem Anew.rest_none {n a : Nat} {A : List V} {r : V} {R : Nat → V} {L : Nat → Nat} (h : Anew n A r R a L) (hA : ∀ s ∈ A, Of n s) (hr : Of n r) : ∀ j, a ≤ j → j < A.length + 1 → None' (R j) := by
  intro j h1 h2 k
  rcases Nat.lt_or_ge k n with hl | hl
  · exact h.el.rest j h1 h2 k hl
  · have hs : Span (A ++ [r]) (R j) := (h.span _).1 (.mem (mem_rowsOf.2 ⟨j, h2, rfl⟩))
    exact hs.of (fun s hs => by rcases List.mem_append.1 hs with hs | hs; exact hA s hs; rw [List.mem_singleton.1 hs]; exact hr) k hl

/-- where the others are nought, those in order span all -/
theorem Anew.all {n a : Nat} {A : List V} {r : V} {R : Nat → V} {L : Nat → Nat} (h : Anew n A r R a L) (hz : ∀ j, a ≤ j → j < A.length + 1 → R j = V.o) (v : V) : Span (rowsOf R a) v ↔ Span (A ++ [r]) v := by
  rw [← h.span]
  constructor
  · refine Span.mono fun x hx => ?_
    obtain ⟨j, hj, rfl⟩ := mem_rowsOf.1 hx
    exact mem_rowsOf.2 ⟨j, by have := h.el.le; omega, rfl⟩
  · refine Span.sub fun x hx => ?_
    obtain ⟨j, hj, rfl⟩ := mem_rowsOf.1 hx
    rcases Nat.lt_or_ge j a with hl | hl
    · exact .mem (mem_rowsOf.2 ⟨j, hl, rfl⟩)
    · rw [hz j hl hj]; exact .o

/-- the row brings something new: what comes is the one order of all -/
theorem Anew.more {n a : Nat} {A P : List V} {r : V} {R : Nat → V} {L : Nat → Nat} (h : Anew n A r R a L) (hA : ∀ s ∈ A, Of n s) (hr : Of n r) (hP : Sys P) (hsp : ∀ v, Span P v ↔ Span (A ++ [r]) v) : rowsOf R a = P := by
  refine h.el.sys.uniq hP fun v => ?_
  rw [hsp]
  refine h.all (fun j h1 h2 => ?_) v
  have hs : Span P (R j) := (hsp _).2 ((h.span _).1 (.mem (mem_rowsOf.2 ⟨j, h2, rfl⟩)))
  exact hP.none hs (h.rest_none hA hr j h1 h2)

/-- how many are in order where the row has no block of its own -/
theorem Anew.count {n a : Nat} {A : List V} {r : V} {R : Nat → V} {L : Nat → Nat} (h : Anew n A r R a L) (hA : ∀ s ∈ A, Of n s) (hr : Of n r) (hS : Sys A) (hp : None' (red n A r)) : a = A.length := by
  have hz := h.rest_none hA hr
  have h1 : (rowsOf R a).map bare = A.map bare := by
    refine h.el.sys.bare.uniq hS.bare fun u => ?_
    have hred : Span A ((red n A r).add r) := red_span n A r
    constructor
    · intro hu
      obtain ⟨v, hv, rfl⟩ := span_of_bare hu
      have hv2 : Span (A ++ [red n A r]) v := (red_same n A r v).1 ((h.span v).1 (hv.mono fun x hx => by
        obtain ⟨j, hj, rfl⟩ := mem_rowsOf.1 hx
        exact mem_rowsOf.2 ⟨j, by have := h.el.le; omega, rfl⟩))
      have hv3 := hv2.bare
      refine hv3.sub fun x hx => ?_
      obtain ⟨y, hy, rfl⟩ := List.mem_map.1 hx
      rcases List.mem_append.1 hy with hy | hy
      · exact .mem (List.mem_map_of_mem hy)
      · rw [List.mem_singleton.1 hy, bare_none hp]; exact .o
    · intro hu
      obtain ⟨v, hv, rfl⟩ := span_of_bare hu
      have hv2 : Span (rowsOf R (A.length + 1)) v := (h.span v).2 (hv.mono fun x hx => List.mem_append_left _ hx)
      refine hv2.bare.sub fun x hx => ?_
      obtain ⟨y, hy, rfl⟩ := List.mem_map.1 hx
      obtain ⟨j, hj, rfl⟩ := mem_rowsOf.1 hy
      rcases Nat.lt_or_ge j a with hl | hl
      · exact .mem (List.mem_map_of_mem (mem_rowsOf.2 ⟨j, hl, rfl⟩))
      · rw [bare_none (hz j hl hj)]; exact .o
  have := congrArg List.length h1
  simpa [rowsOf_length] using this

/-- the row says nothing new -/
theorem Anew.same {n a : Nat} {A : List V} {r : V} {R : Nat → V} {L : Nat → Nat} (h : Anew n A r R a L) (hA : ∀ s ∈ A, Of n s) (hr : Of n r) (hS : Sys A) (hp : red n A r = V.o) : a = A.length ∧ rowsOf R a = A ∧ R A.length = V.o := by
  have hc := h.count hA hr hS (by rw [hp]; exact fun k => rfl)
  have hsp : ∀ v, Span A v ↔ Span (A ++ [r]) v := fun v => by
    rw [red_same n A r v, hp]
    constructor
    · exact Span.mono fun x hx => List.mem_append_left _ hx
    · refine Span.sub fun x hx => ?_
      rcases List.mem_append.1 hx with hx | hx
      · exact .mem hx
      · rw [List.mem_singleton.1 hx]; exact .o
  refine ⟨hc, h.more hA hr hS hsp, ?_⟩
  have hs : Span A (R A.length) := (hsp _).2 ((h.span _).1 (.mem (mem_rowsOf.2 ⟨A.length, by omega, rfl⟩)))
  exact hS.none hs (h.rest_none hA hr A.length (by omega) (by omega))

/-- the row belongs not to them -/
theorem Anew.torn {n a : Nat} {A : List V} {r : V} {R : Nat → V} {L : Nat → Nat} (h : Anew n A r R a L) (hA : ∀ s ∈ A, Of n s) (hr : Of n r) (hS : Sys A) (hp : None' (red n A r)) (hne : red n A r ≠ V.o) : a = A.length ∧ None' (R A.length) ∧ R A.length ≠ V.o := by
  have hc := h.count hA hr hS hp
  refine ⟨hc, h.rest_none hA hr A.length (by omega) (by omega), fun hz => hne ?_⟩
  have hall := h.all (fun j h1 h2 => by obtain rfl : j = A.length := by omega
                                        exact hz)
  have hs : Span (rowsOf R a) (red n A r) := (hall _).2 ((red_same n A r _).2 (.mem (by simp)))
  exact h.el.sys.none hs hp

end Go.Proofs.YtekdigbdfeamkaaGreatDoor

/-
  Rows that are true of given blocks; how many rows in order there are; and what is known where there are as many as blocks. Nothing of any program.
-/
namespace Go.Proofs.YtekdigbdfeamkaaGreatDoor
set_option linter.unusedVariables false
set_option linter.unusedSimpArgs false

/-- the sum of the blocks that are in it, of the first n -/
def sumAt (B : Nat → Nat → UInt8) (h : Nat → Bool) : Nat → Nat → UInt8
  | 0, _ => 0
  | n + 1, i => sumAt B h n i ^^^ (if h n = true then B n i else 0)

theorem sumAt_add (B : Nat → Nat → UInt8) (a b : V) (n i : Nat) : sumAt B (a.add b).has n i = sumAt B a.has n i ^^^ sumAt B b.has n i := by
  induction n with
  | zero => simp [sumAt]
  | succ n ih =>
    simp only [sumAt, ih, V.has_add]
    have hx : ∀ x y c : UInt8, ∀ p q : Bool, (x ^^^ y ^^^ if (p != q) = true then c else 0) = (x ^^^ if p = true then c else 0) ^^^ (y ^^^ if q = true then c else 0) := by
      intro x y c p q
      have e : c ^^^ (y ^^^ c) = y := by rw [UInt8.xor_comm y c, ← UInt8.xor_assoc, UInt8.xor_self, UInt8.zero_xor]
      cases p <;> cases q <;> simp [UInt8.xor_assoc, e, UInt8.xor_comm c y]
    exact hx _ _ _ _ _

theorem sumAt_none {B : Nat → Nat → UInt8} {h : Nat → Bool} (hn : ∀ k, h k = false) (n i : Nat) : sumAt B h n i = 0 := by
  induction n with
  | zero => rfl
  | succ n ih => simp [sumAt, ih, hn]

theorem sumAt_one {B : Nat → Nat → UInt8} {h : Nat → Bool} {k : Nat} (hk : ∀ j, h j = decide (j = k)) (n i : Nat) : sumAt B h n i = if k < n then B k i else 0 := by
  induction n with
  | zero => simp [sumAt]
  | succ n ih =>
    simp only [sumAt, ih, hk]
    by_cases e : n = k
    · subst e; simp
    · rcases Nat.lt_or_gt_of_ne e with hl | hl
      · simp [e, show ¬ k < n by omega, show ¬ k < n + 1 by omega]
      · simp [e, show k < n by omega, show k < n + 1 by omega]

/-- the row is true of these blocks -/
def Tr (n : Nat) (B : Nat → Nat → UInt8) (v : V) : Prop := ∀ i, v.dat i = sumAt B v.has n i

theorem Tr.o (n : Nat) (B : Nat → Nat → UInt8) : Tr n B V.o := fun i => (sumAt_none (fun _ => rfl) n i).symm

theorem Tr.add {n : Nat} {B : Nat → Nat → UInt8} {a b : V} (ha : Tr n B a) (hb : Tr n B b) : Tr n B (a.add b) := fun i => by
  rw [sumAt_add, ← ha i, ← hb i]; rfl

theorem Span.tr {n : Nat} {B : Nat → Nat → UInt8} {S : List V} (h : ∀ r ∈ S, Tr n B r) {v : V} (hv : Span S v) : Tr n B v := by
  induction hv with
  | o => exact Tr.o n B
  | step hr _ ih => exact ih.add (h _ hr)

/-- a true row with nothing in it is nought: so none is torn -/
theorem Tr.none {n : Nat} {B : Nat → Nat → UInt8} {v : V} (h : Tr n B v) (hn : None' v) : v = V.o :=
  V.ext' (fun k => by rw [hn k]; rfl) (fun i => by rw [h i, sumAt_none hn]; rfl)

/-- a true row of one block alone is that block -/
theorem Tr.one {n : Nat} {B : Nat → Nat → UInt8} {v : V} (h : Tr n B v) {k : Nat} (hk : k < n) (ho : ∀ j, v.has j = decide (j = k)) (i : Nat) : v.dat i = B k i := by
  rw [h i, sumAt_one ho, if_pos hk]

theorem rising_le {l : List Nat} : ∀ {lo n : Nat}, l.Pairwise (· < ·) → (∀ x ∈ l, lo ≤ x ∧ x < n) → l.length ≤ n - lo := by
  induction l with
  | nil => intro lo n _ _; simp
  | cons a l ih =>
    intro lo n hp hb
    have ha := hb a List.mem_cons_self
    have hp := List.pairwise_cons.1 hp
    have := ih (lo := a + 1) (n := n) hp.2 fun x hx => ⟨hp.1 x hx, (hb x (List.mem_cons_of_mem _ hx)).2⟩
    simp only [List.length_cons]
    omega

theorem rising_ge {l : List Nat} : ∀ {lo n : Nat}, l.Pairwise (· < ·) → (∀ x ∈ l, lo ≤ x) → (∀ k, lo ≤ k → k < n → k ∈ l) → n - lo ≤ l.length := by
  induction l with
  | nil =>
    intro lo n _ _ h
    rcases Nat.lt_or_ge lo n with hl | hl
    · exact absurd (h lo (Nat.le_refl _) hl) (by simp)
    · simp; omega
  | cons a l ih =>
    intro lo n hp hb h
    have hp := List.pairwise_cons.1 hp
    rcases Nat.lt_or_ge lo n with hl | hl
    · have ha : a = lo := by
        have h1 := hb a List.mem_cons_self
        rcases List.mem_cons.1 (h lo (Nat.le_refl _) hl) with e | hm
        · exact e.symm
        · have := hp.1 lo hm; omega
      subst ha
      have := ih (lo := a + 1) (n := n) hp.2 (fun x hx => hp.1 x hx) fun k h1 h2 => by
        rcases List.mem_cons.1 (h k (by omega) h2) with e | hm
        · omega
        · exact hm
      simp only [List.length_cons]
      omega
    · simp only [List.length_cons]; omega

/-- the first blocks rise -/
theorem Sys.rising {n : Nat} {A : List V} (h : Sys A) (hn : ∀ r ∈ A, Of n r) : (A.map (fst n)).Pairwise (· < ·) := by
  rw [List.pairwise_map]
  refine h.pair.imp_of_mem fun ha hb hab => ?_
  obtain ⟨j, k, l1, l2, hlt, _⟩ := hab
  rw [fst_lead l1 ((hn _ ha).lead l1), fst_lead l2 ((hn _ hb).lead l2)]
  exact hlt

theorem Sys.fst_lt {n : Nat} {A : List V} (h : Sys A) (hn : ∀ r ∈ A, Of n r) {r : V} (hr : r ∈ A) : fst n r < n := by
  obtain ⟨k, hk⟩ := h.lead r hr
  have := (hn r hr).lead hk
  rw [fst_lead hk this]
  exact this

/-- there are never more rows than blocks -/
theorem Sys.few {n : Nat} {A : List V} (h : Sys A) (hn : ∀ r ∈ A, Of n r) : A.length ≤ n := by
  have := rising_le (lo := 0) (n := n) (h.rising hn) fun x hx => by
    obtain ⟨r, hr, rfl⟩ := List.mem_map.1 hx
    exact ⟨Nat.zero_le _, h.fst_lt hn hr⟩
  simpa using this

/-- where each block is the first one of something spanned there are as many rows as blocks -/
theorem Sys.full {n : Nat} {A : List V} (h : Sys A) (hn : ∀ r ∈ A, Of n r) (hk : ∀ k, k < n → ∃ v, Span A v ∧ Lead v k) : A.length = n := by
  have h1 := h.few hn
  have h2 := rising_ge (lo := 0) (n := n) (h.rising hn) (fun x _ => Nat.zero_le _) fun k _ hlt => by
    obtain ⟨v, hv, hl⟩ := hk k hlt
    obtain ⟨r, hr, hl'⟩ := h.first hv hl
    exact List.mem_map.2 ⟨r, hr, fst_lead hl' hlt⟩
  simp at h2
  omega

theorem rising_at {l : List Nat} : ∀ {lo n : Nat}, l.Pairwise (· < ·) → (∀ x ∈ l, lo ≤ x ∧ x < n) → l.length = n - lo → ∀ k (hk : k < l.length), l[k] = lo + k := by
  induction l with
  | nil => intro lo n _ _ _ k hk; simp at hk
  | cons a l ih =>
    intro lo n hp hb hl k hk
    have ha := hb a List.mem_cons_self
    have hp := List.pairwise_cons.1 hp
    have hb' : ∀ x ∈ l, a + 1 ≤ x ∧ x < n := fun x hx => ⟨hp.1 x hx, (hb x (List.mem_cons_of_mem _ hx)).2⟩
    have hle := rising_le hp.2 hb'
    simp only [List.length_cons] at hl
    have e : a = lo := by omega
    subst e
    cases k with
    | zero => simp
    | succ k =>
      have := ih hp.2 hb' (by omega) k (by simpa using hk)
      simp only [List.getElem_cons_succ, this]
      omega

/-- as many rows as blocks: each is one block, alone -/
theorem Sys.units {n : Nat} {A : List V} (h : Sys A) (hn : ∀ r ∈ A, Of n r) (hl : A.length = n) : ∀ k (hk : k < A.length), ∀ j, (A[k]).has j = decide (j = k) := by
  have hat : ∀ k (hk : k < A.length), Lead A[k] k := fun k hk => by
    have h1 := rising_at (lo := 0) (n := n) (h.rising hn) (fun x hx => by
      obtain ⟨r, hr, rfl⟩ := List.mem_map.1 hx
      exact ⟨Nat.zero_le _, h.fst_lt hn hr⟩) (by simpa using hl) k (by simpa using hk)
    simp only [List.getElem_map, Nat.zero_add] at h1
    have := lead_fst (h.fst_lt hn (List.getElem_mem hk))
    rwa [h1] at this
  intro k hk j
  by_cases e : j = k
  · subst e
    rw [decide_eq_true rfl]
    exact (hat j hk).1
  · rw [decide_eq_false e]
    rcases Nat.lt_or_ge j n with hj | hj
    · cases hh : (A[k]).has j
      · rfl
      · have := h.apart (List.getElem_mem (show j < A.length by omega)) (List.getElem_mem hk) (hat j (by omega)) hh
        have h2 := hat k hk
        rw [this] at h2
        exact absurd ((hat j (by omega)).one h2) e
    · exact hn _ (List.getElem_mem hk) j hj

end Go.Proofs.YtekdigbdfeamkaaGreatDoor
