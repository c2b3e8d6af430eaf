/-
  A row added to rows in order: brought down by them, put among them; and all rows brought into order anew, column by column: both end in the same rows. Nothing of any program.
-/
import Derived.Test.YtcpnbkgkknlocaaDoorSolvePure
namespace Go.Proofs.YtcpnbkgkknlocaaDoor
set_option linter.unusedVariables false
set_option linter.unusedSimpArgs false

/-- a row's first block of n; n, if it has none -/
def fst (n : Nat) (v : V) : Nat := (List.range n).findIdx fun k => v.has k

theorem fst_lead {n : Nat} {v : V} {k : Nat} (h : Lead v k) (hk : k < n) : fst n v = k := by
  unfold fst
  rw [List.findIdx_eq (by simpa using hk)]
  refine ⟨by simpa using h.1, fun j hj => ?_⟩
  simpa using h.2 j hj

theorem lead_fst {n : Nat} {v : V} (h : fst n v < n) : Lead v (fst n v) := by
  unfold fst at h ⊢
  have h1 : (List.range n).findIdx (fun k => v.has k) < (List.range n).length := by simpa using h
  refine ⟨by simpa using List.findIdx_getElem (w := h1), fun j hj => ?_⟩
  have := List.not_of_lt_findIdx hj
  simpa using this

theorem fst_le (n : Nat) (v : V) : fst n v ≤ n := by
  have := List.findIdx_le_length (p := fun k => v.has k) (xs := List.range n)
  simpa [fst] using this

theorem fst_none {n : Nat} {v : V} : fst n v = n ↔ ∀ k, k < n → v.has k = false := by
  constructor
  · intro h k hk
    have : k < (List.range n).findIdx (fun k => v.has k) := by unfold fst at h; omega
    simpa using List.not_of_lt_findIdx this
  · intro h
    rcases Nat.lt_or_ge (fst n v) n with hl | hl
    · have := (lead_fst hl).1
      rw [h _ hl] at this
      cases this
    · have := fst_le n v
      omega

/-- of so many blocks -/
def Of (n : Nat) (v : V) : Prop := ∀ k, n ≤ k → v.has k = false

theorem Of.add {n : Nat} {a b : V} (ha : Of n a) (hb : Of n b) : Of n (a.add b) := fun k hk => by rw [V.has_add, ha k hk, hb k hk]; rfl

theorem Of.lead {n : Nat} {v : V} (h : Of n v) {k : Nat} (hk : Lead v k) : k < n := by
  rcases Nat.lt_or_ge k n with hl | hl
  · exact hl
  · have := hk.1
    rw [h k hl] at this
    cases this

theorem Span.of {n : Nat} {S : List V} (h : ∀ r ∈ S, Of n r) {v : V} (hv : Span S v) : Of n v := fun k hk => hv.nought fun r hr => h r hr k hk

/-- a row, each row added whose first block it has -/
def red (n : Nat) (A : List V) (v : V) : V := A.foldl (fun v s => if v.has (fst n s) = true then v.add s else v) v

theorem red_nil (n : Nat) (v : V) : red n [] v = v := rfl
theorem red_cons (n : Nat) (a : V) (A : List V) (v : V) : red n (a :: A) v = red n A (if v.has (fst n a) = true then v.add a else v) := rfl

theorem red_snoc (n : Nat) (A : List V) (a v : V) : red n (A ++ [a]) v = if (red n A v).has (fst n a) = true then (red n A v).add a else red n A v := by
  unfold red
  rw [List.foldl_append]
  rfl

theorem red_span (n : Nat) (A : List V) (v : V) : Span A ((red n A v).add v) := by
  induction A generalizing v with
  | nil => rw [red_nil, V.add_self]; exact .o
  | cons a A ih =>
    rw [red_cons]
    split
    · have h1 := (ih (v.add a)).mono (T := a :: A) fun r hr => List.mem_cons_of_mem _ hr
      have h2 := h1.add (.mem (List.mem_cons_self (a := a) (l := A)))
      rwa [V.add_assoc, V.add_add] at h2
    · exact (ih v).mono fun r hr => List.mem_cons_of_mem _ hr

theorem red_keep {n : Nat} {A : List V} {k : Nat} (h : ∀ s ∈ A, s.has k = false) (v : V) : (red n A v).has k = v.has k := by
  induction A generalizing v with
  | nil => rfl
  | cons a A ih =>
    rw [red_cons, ih (fun s hs => h s (List.mem_cons_of_mem _ hs))]
    split
    · rw [V.has_add, h a List.mem_cons_self]; simp
    · rfl

theorem red_clear {n : Nat} {A : List V} (hA : Sys A) (hn : ∀ r ∈ A, Of n r) (v : V) : ∀ r ∈ A, ∀ k, Lead r k → (red n A v).has k = false := by
  induction A generalizing v with
  | nil => intro r hr; simp at hr
  | cons a A ih =>
    intro r hr k hk
    rcases List.mem_cons.1 hr with rfl | hr'
    · rw [red_cons, fst_lead hk ((hn r List.mem_cons_self).lead hk), red_keep]
      · cases hh : v.has k
        · simp [hh]
        · simp [V.has_add, hh, hk.1]
      · intro s hs
        obtain ⟨i, j, l1, l2, hlt, _⟩ := hA.ahead s hs
        have := l1.one hk
        subst this
        exact l2.2 _ hlt
    · rw [red_cons]
      exact ih hA.tail (fun s hs => hn s (List.mem_cons_of_mem _ hs)) _ r hr' k hk

theorem red_of {n : Nat} {A : List V} (hn : ∀ r ∈ A, Of n r) {v : V} (hv : Of n v) : Of n (red n A v) := by
  have h := (red_span n A v).of hn
  have := h.add hv
  rwa [V.add_add] at this

/-- with the row as with what is left of it -/
theorem red_same (n : Nat) (A : List V) (r v : V) : Span (A ++ [r]) v ↔ Span (A ++ [red n A r]) v := by
  have hs := red_span n A r
  have h1 : Span (A ++ [red n A r]) r := by
    have h := (hs.mono (T := A ++ [red n A r]) fun x hx => List.mem_append_left _ hx).add (.mem (r := red n A r) (by simp))
    rw [V.add_comm, ← V.add_assoc, V.add_self, V.o_add] at h
    exact h
  have h2 : Span (A ++ [r]) (red n A r) := by
    have h := (hs.mono (T := A ++ [r]) fun x hx => List.mem_append_left _ hx).add (.mem (r := r) (by simp))
    rwa [V.add_add] at h
  constructor
  · refine Span.sub fun x hx => ?_
    rcases List.mem_append.1 hx with hx | hx
    · exact .mem (List.mem_append_left _ hx)
    · rw [List.mem_singleton.1 hx]; exact h1
  · refine Span.sub fun x hx => ?_
    rcases List.mem_append.1 hx with hx | hx
    · exact .mem (List.mem_append_left _ hx)
    · rw [List.mem_singleton.1 hx]; exact h2

/-- what a row becomes behind a new one of which it has the first block -/
def clr (p : V) (k : Nat) (s : V) : V := if s.has k = true then s.add p else s

theorem clr_has {p s : V} {k : Nat} (hp : p.has k = true) : (clr p k s).has k = false := by
  unfold clr
  split
  · rename_i h; rw [V.has_add, h, hp]; rfl
  · rename_i h; simpa using h

theorem clr_low {p s : V} {k j : Nat} (hj : p.has j = false) : (clr p k s).has j = s.has j := by
  unfold clr
  split
  · rw [V.has_add, hj]; simp
  · rfl

theorem clr_lead {p s : V} {k j : Nat} (hp : Lead p k) (hs : Lead s j) (hj : p.has j = false) (hne : j ≠ k) : Lead (clr p k s) j := by
  rcases Nat.lt_or_ge j k with hl | hl
  · refine ⟨by rw [clr_low hj]; exact hs.1, fun i hi => ?_⟩
    rw [clr_low (hp.2 i (by omega))]
    exact hs.2 i hi
  · have h : s.has k = false := hs.2 k (by omega)
    unfold clr
    rw [if_neg (by simp [h])]
    exact hs

/-- a new row stands among them -/
theorem Sys.insert {X Y : List V} {p : V} {k : Nat} (h : Sys (X ++ Y)) (hp : Lead p k) (hz : ∀ r ∈ X ++ Y, ∀ j, Lead r j → p.has j = false)
    (hX : ∀ r ∈ X, ∃ j, j < k ∧ Lead r j) (hY : ∀ r ∈ Y, ∃ j, k < j ∧ Lead r j) : Sys (X.map (clr p k) ++ p :: Y.map (clr p k)) := by
  have hP := List.pairwise_append.1 h.pair
  have hc : ∀ a ∈ X ++ Y, ∀ b ∈ X ++ Y, Ahead a b → Ahead (clr p k a) (clr p k b) := by
    rintro a ha b hb ⟨i, j, l1, l2, hlt, hf⟩
    have z1 := hz a ha i l1
    have z2 := hz b hb j l2
    have n1 : i ≠ k := fun e => by subst e; rw [hp.1] at z1; cases z1
    have n2 : j ≠ k := fun e => by subst e; rw [hp.1] at z2; cases z2
    exact ⟨i, j, clr_lead hp l1 z1 n1, clr_lead hp l2 z2 n2, hlt, by rw [clr_low z2]; exact hf⟩
  have hl : ∀ a ∈ X ++ Y, ∃ i, Lead (clr p k a) i := fun a ha => by
    obtain ⟨i, hi⟩ := h.lead a ha
    have z := hz a ha i hi
    exact ⟨i, clr_lead hp hi z fun e => by subst e; rw [hp.1] at z; cases z⟩
  refine ⟨fun r hr => ?_, ?_⟩
  · rcases List.mem_append.1 hr with hr | hr
    · obtain ⟨a, ha, rfl⟩ := List.mem_map.1 hr
      exact hl a (List.mem_append_left _ ha)
    · rcases List.mem_cons.1 hr with rfl | hr
      · exact ⟨k, hp⟩
      · obtain ⟨a, ha, rfl⟩ := List.mem_map.1 hr
        exact hl a (List.mem_append_right _ ha)
  · rw [List.pairwise_append, List.pairwise_cons]
    refine ⟨?_, ⟨?_, ?_⟩, ?_⟩
    · rw [List.pairwise_map]
      exact hP.1.imp_of_mem fun ha hb hab => hc _ (List.mem_append_left _ ha) _ (List.mem_append_left _ hb) hab
    · intro b hb
      obtain ⟨a, ha, rfl⟩ := List.mem_map.1 hb
      obtain ⟨j, hj, hl'⟩ := hY a ha
      have z := hz a (List.mem_append_right _ ha) j hl'
      exact ⟨k, j, hp, clr_lead hp hl' z (by omega), hj, z⟩
    · rw [List.pairwise_map]
      exact hP.2.1.imp_of_mem fun ha hb hab => hc _ (List.mem_append_right _ ha) _ (List.mem_append_right _ hb) hab
    · intro a ha b hb
      obtain ⟨a', ha', rfl⟩ := List.mem_map.1 ha
      rcases List.mem_cons.1 hb with rfl | hb
      · obtain ⟨j, hj, hl'⟩ := hX a' ha'
        have z := hz a' (List.mem_append_left _ ha') j hl'
        exact ⟨j, k, clr_lead hp hl' z (by omega), hp, hj, clr_has hp.1⟩
      · obtain ⟨b', hb', rfl⟩ := List.mem_map.1 hb
        exact hc _ (List.mem_append_left _ ha') _ (List.mem_append_right _ hb') (hP.2.2 a' ha' b' hb')

theorem clr_span {S : List V} {p s : V} {k : Nat} (hs : Span S s) (hp : Span S p) : Span S (clr p k s) := by
  unfold clr
  split
  · exact hs.add hp
  · exact hs

theorem span_clr {S : List V} {p s : V} {k : Nat} (hs : Span S (clr p k s)) (hp : Span S p) : Span S s := by
  unfold clr at hs
  split at hs
  · have := hs.add hp
    rwa [V.add_add] at this
  · exact hs

/-- .. and spans with them what they and it span -/
theorem insert_span (X Y : List V) (p : V) (k : Nat) (v : V) : Span (X.map (clr p k) ++ p :: Y.map (clr p k)) v ↔ Span (X ++ Y ++ [p]) v := by
  constructor
  · refine Span.sub fun r hr => ?_
    have hp : Span (X ++ Y ++ [p]) p := .mem (by simp)
    rcases List.mem_append.1 hr with hr | hr
    · obtain ⟨a, ha, rfl⟩ := List.mem_map.1 hr
      exact clr_span (.mem (by simp [ha])) hp
    · rcases List.mem_cons.1 hr with rfl | hr
      · exact hp
      · obtain ⟨a, ha, rfl⟩ := List.mem_map.1 hr
        exact clr_span (.mem (by simp [ha])) hp
  · refine Span.sub fun r hr => ?_
    have hp : Span (X.map (clr p k) ++ p :: Y.map (clr p k)) p := .mem (by simp)
    rcases List.mem_append.1 hr with hr | hr
    · rcases List.mem_append.1 hr with hr | hr
      · exact span_clr (k := k) (.mem (List.mem_append_left _ (List.mem_map_of_mem hr))) hp
      · exact span_clr (k := k) (.mem (List.mem_append_right _ (List.mem_cons_of_mem _ (List.mem_map_of_mem hr)))) hp
    · rw [List.mem_singleton.1 hr]; exact hp

end Go.Proofs.YtcpnbkgkknlocaaDoor
