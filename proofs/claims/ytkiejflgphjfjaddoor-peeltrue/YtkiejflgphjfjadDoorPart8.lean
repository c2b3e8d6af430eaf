import Derived.Test.YtkiejflgphjfjadDoorPart7
import Derived.Test.YtkiejflgphjfjadDoorPart6
import Derived.Lib.AppendZeros
import Derived.Test.YtkiejflgphjfjadDoorPart1
import Derived.Test.YtkiejflgphjfjadDoorPart5
import Derived.Test.YtkiejflgphjfjadDoorRows
import Derived.Test.YtkiejflgphjfjadDoorProg
/-
  Chapter 6 in plain functions on lists: what is known one by one; that it ends, that it is true, that more symbols tell no less. Nothing of any program.
-/
namespace Go.Proofs.YtkiejflgphjfjadDoor
open Go.RowKit
set_option linter.unusedVariables false
set_option linter.unusedSimpArgs false

/-- what is known of each block; [] : nothing -/
abbrev Kn := List (List UInt8)

def knw (K : Kn) (j : Nat) : Bool := !(K.getD j []).isEmpty
def missL (n : Nat) (h : List Bool) (K : Kn) : List Nat := (List.range n).filter fun j => h.getD j false && !knw K j
def useL (n : Nat) (h : List Bool) (K : Kn) : List Nat := (List.range n).filter fun j => h.getD j false && knw K j

/-- what is left of a row: its bytes and those of the known blocks, added -/
def restL (n k : Nat) (r : LRow) (K : Kn) : List UInt8 := (List.range k).map fun t => r.2.getD t 0 ^^^ sumAt (fun j t => (K.getD j []).getD t 0) (fun j => r.1.getD j false && knw K j) n t

theorem restL_length (n k : Nat) (r : LRow) (K : Kn) : (restL n k r K).length = k := by simp [restL]

/-- the state of a round: what is left, what is known, whether something was found -/
abbrev PSt := List LRow × Kn × Bool

def stepR (n k : Nat) (s : PSt) (r : LRow) : PSt :=
  match missL n r.1 s.2.1 with
  | [] => s
  | [x] => (s.1, s.2.1.set x (restL n k r s.2.1), true)
  | _ => (s.1 ++ [r], s.2.1, s.2.2)

def roundP (n k : Nat) (rows : List LRow) (K : Kn) : PSt := rows.foldl (stepR n k) ([], K, false)

def KOk (n k : Nat) (K : Kn) : Prop := K.length = n ∧ ∀ d ∈ K, d = [] ∨ d.length = k

def cntU (K : Kn) : Nat := K.countP (·.isEmpty)

theorem stepR_none {n k : Nat} {s : PSt} {r : LRow} (h : (missL n r.1 s.2.1).length = 0) : stepR n k s r = s := by
  unfold stepR
  rw [List.eq_nil_of_length_eq_zero h]

theorem stepR_one {n k x : Nat} {s : PSt} {r : LRow} (h : missL n r.1 s.2.1 = [x]) : stepR n k s r = (s.1, s.2.1.set x (restL n k r s.2.1), true) := by
  unfold stepR
  rw [h]

theorem stepR_more {n k : Nat} {s : PSt} {r : LRow} (h : 2 ≤ (missL n r.1 s.2.1).length) : stepR n k s r = (s.1 ++ [r], s.2.1, s.2.2) := by
  unfold stepR
  match hm : missL n r.1 s.2.1, h with
  | a :: b :: l, _ => rfl

/-- the three ways -/
theorem miss_cases (n : Nat) (h : List Bool) (K : Kn) : (missL n h K).length = 0 ∨ (∃ x, missL n h K = [x]) ∨ 2 ≤ (missL n h K).length := by
  match hm : missL n h K with
  | [] => exact .inl rfl
  | [x] => exact .inr (.inl ⟨x, rfl⟩)
  | a :: b :: l => exact .inr (.inr (by simp))

theorem mem_miss {n : Nat} {h : List Bool} {K : Kn} {j : Nat} : j ∈ missL n h K ↔ j < n ∧ h.getD j false = true ∧ knw K j = false := by simp [missL]

theorem mem_use {n : Nat} {h : List Bool} {K : Kn} {j : Nat} : j ∈ useL n h K ↔ j < n ∧ h.getD j false = true ∧ knw K j = true := by simp [useL]

theorem knw_set {K : Kn} {x : Nat} {d : List UInt8} (hx : x < K.length) (hd : d ≠ []) (j : Nat) : knw (K.set x d) j = (decide (j = x) || knw K j) := by
  unfold knw
  by_cases e : j = x
  · subst e
    simp [List.getD_eq_getElem?_getD, List.getElem?_set_self hx, hd]
  · simp only [List.getD_eq_getElem?_getD, List.getElem?_set_ne (Ne.symm e)]
    simp [e]

theorem restL_ne {n k : Nat} (k1 : 1 ≤ k) (r : LRow) (K : Kn) : restL n k r K ≠ [] := by
  intro e
  have := congrArg List.length e
  rw [restL_length] at this
  simp at this
  omega

theorem KOk.set {n k x : Nat} {K : Kn} {d : List UInt8} (h : KOk n k K) (hd : d.length = k) : KOk n k (K.set x d) := by
  refine ⟨by simp [h.1], fun e he => ?_⟩
  rcases List.mem_or_eq_of_mem_set he with h1 | rfl
  · exact h.2 e h1
  · exact .inr hd

theorem cntU_set : ∀ {K : Kn} {x : Nat} {d : List UInt8}, x < K.length → knw K x = false → d ≠ [] → cntU (K.set x d) + 1 = cntU K := by
  intro K
  induction K with
  | nil => intro x d hx; simp at hx
  | cons e K ih =>
    intro x d hx hk hd
    cases x with
    | zero =>
      have he : e = [] := by simpa [knw] using hk
      subst he
      simp [cntU, hd]
    | succ x =>
      have := ih (x := x) (d := d) (by simpa using hx) (by simpa [knw] using hk) hd
      simp only [cntU, List.set_cons_succ, List.countP_cons] at *
      omega

/-- what a step does, told once -/
theorem stepR_keeps {n k : Nat} (k1 : 1 ≤ k) {s : PSt} {r : LRow} (h : KOk n k s.2.1) : KOk n k (stepR n k s r).2.1 ∧ (∀ j, knw s.2.1 j = true → knw (stepR n k s r).2.1 j = true) ∧ (cntU (stepR n k s r).2.1 ≤ cntU s.2.1 ∧ ((stepR n k s r).2.2 = true → s.2.2 = true ∨ cntU (stepR n k s r).2.1 < cntU s.2.1)) ∧ (s.2.2 = true → (stepR n k s r).2.2 = true) ∧ ((stepR n k s r).2.2 = false → (stepR n k s r).2.1 = s.2.1) ∧
    (r ∈ (stepR n k s r).1 ∨ missL n r.1 (stepR n k s r).2.1 = []) ∧ (∀ x ∈ s.1, x ∈ (stepR n k s r).1) ∧ (∀ x ∈ (stepR n k s r).1, x ∈ s.1 ∨ x = r) := by
  rcases miss_cases n r.1 s.2.1 with h0 | ⟨x, hx⟩ | h2
  · rw [stepR_none h0]
    exact ⟨h, fun j hj => hj, ⟨Nat.le_refl _, fun e => .inl e⟩, fun e => e, fun _ => rfl, .inr (List.eq_nil_of_length_eq_zero h0), fun x hx => hx, fun x hx => .inl hx⟩
  · rw [stepR_one hx]
    have hm : x ∈ missL n r.1 s.2.1 := by rw [hx]; simp
    obtain ⟨hxn, hxr, hxk⟩ := mem_miss.1 hm
    have hxl : x < s.2.1.length := by rw [h.1]; exact hxn
    have hne := restL_ne (n := n) k1 r s.2.1
    have hc := cntU_set hxl hxk hne
    refine ⟨h.set (restL_length n k r s.2.1), fun j hj => ?_, ⟨by simp only; omega, fun _ => .inr (by simp only; omega)⟩, fun _ => rfl, fun e => by simp at e, .inr ?_, fun x hx => hx, fun x hx => .inl hx⟩
    · simp only [knw_set hxl hne, hj, Bool.or_true]
    · apply List.eq_nil_iff_forall_not_mem.2
      intro j hj
      obtain ⟨h1, h2, h3⟩ := mem_miss.1 hj
      simp only [knw_set hxl hne, Bool.or_eq_false_iff, decide_eq_false_iff_not] at h3
      have : j ∈ missL n r.1 s.2.1 := mem_miss.2 ⟨h1, h2, h3.2⟩
      rw [hx] at this
      simp at this
      exact h3.1 this
  · rw [stepR_more h2]
    exact ⟨h, fun j hj => hj, ⟨Nat.le_refl _, fun e => .inl e⟩, fun e => e, fun _ => rfl, .inl (by simp), fun x hx => by simp [hx], fun x hx => by simpa using hx⟩

/-- .. and a row of steps -/
theorem fold_keeps {n k : Nat} (k1 : 1 ≤ k) : ∀ {rows : List LRow} {s : PSt}, KOk n k s.2.1 → KOk n k (rows.foldl (stepR n k) s).2.1 ∧ (∀ j, knw s.2.1 j = true → knw (rows.foldl (stepR n k) s).2.1 j = true) ∧ (cntU (rows.foldl (stepR n k) s).2.1 ≤ cntU s.2.1 ∧ ((rows.foldl (stepR n k) s).2.2 = true → s.2.2 = true ∨ cntU (rows.foldl (stepR n k) s).2.1 < cntU s.2.1)) ∧ (s.2.2 = true → (rows.foldl (stepR n k) s).2.2 = true) ∧ ((rows.foldl (stepR n k) s).2.2 = false → (rows.foldl (stepR n k) s).2.1 = s.2.1) ∧
    (∀ r, r ∈ rows ∨ r ∈ s.1 → r ∈ (rows.foldl (stepR n k) s).1 ∨ missL n r.1 (rows.foldl (stepR n k) s).2.1 = []) ∧ (∀ x ∈ (rows.foldl (stepR n k) s).1, x ∈ s.1 ∨ x ∈ rows) := by
  intro rows
  induction rows with
  | nil => intro s h; exact ⟨h, fun j hj => hj, ⟨Nat.le_refl _, fun e => .inl e⟩, fun e => e, fun _ => rfl, fun r hr => by simp at hr; exact .inl hr, fun x hx => .inl hx⟩
  | cons r rows ih =>
    intro s h
    obtain ⟨a1, a2, ⟨a3, a3'⟩, a4, a5, a6, a7, a8⟩ := stepR_keeps k1 (r := r) h
    obtain ⟨b1, b2, ⟨b3, b3'⟩, b4, b5, b6, b7⟩ := ih a1
    simp only [List.foldl_cons]
    refine ⟨b1, fun j hj => b2 j (a2 j hj), ⟨by omega, fun e => ?_⟩, fun e => b4 (a4 e), fun e => ?_, fun x hx => ?_, fun x hx => ?_⟩
    · rcases b3' e with e1 | e1
      · rcases a3' e1 with e2 | e2
        · exact .inl e2
        · exact .inr (by omega)
      · exact .inr (by omega)
    · have e1 : (stepR n k s r).2.2 = false := by
        cases hh : (stepR n k s r).2.2
        · rfl
        · rw [b4 hh] at e; exact e
      rw [b5 e, a5 e1]
    · have hmono : ∀ y : LRow, missL n y.1 (stepR n k s r).2.1 = [] → missL n y.1 (rows.foldl (stepR n k) (stepR n k s r)).2.1 = [] := fun y hy => by
        apply List.eq_nil_iff_forall_not_mem.2
        intro j hj
        obtain ⟨h1, h2, h3⟩ := mem_miss.1 hj
        have h4 : ¬ j ∈ missL n y.1 (stepR n k s r).2.1 := by rw [hy]; simp
        have h5 : knw (stepR n k s r).2.1 j = true := by
          cases hh : knw (stepR n k s r).2.1 j
          · exact absurd (mem_miss.2 ⟨h1, h2, hh⟩) h4
          · rfl
        rw [b2 j h5] at h3
        cases h3
      rcases hx with hx | hx
      · rcases List.mem_cons.1 hx with rfl | hx
        · rcases a6 with h6 | h6
          · exact b6 x (.inr h6)
          · exact .inr (hmono x h6)
        · exact b6 x (.inl hx)
      · exact b6 x (.inr (a7 x hx))
    · rcases b7 x hx with h1 | h1
      · rcases a8 x h1 with h2 | rfl
        · exact .inl h2
        · exact .inr (by simp)
      · exact .inr (by simp [h1])

theorem round_keeps {n k : Nat} (k1 : 1 ≤ k) {rows : List LRow} {K : Kn} (h : KOk n k K) : KOk n k (roundP n k rows K).2.1 ∧ (∀ j, knw K j = true → knw (roundP n k rows K).2.1 j = true) ∧ ((roundP n k rows K).2.2 = true → cntU (roundP n k rows K).2.1 < cntU K) ∧ ((roundP n k rows K).2.2 = false → (roundP n k rows K).2.1 = K) ∧ (∀ r ∈ rows, r ∈ (roundP n k rows K).1 ∨ missL n r.1 (roundP n k rows K).2.1 = []) ∧ (∀ x ∈ (roundP n k rows K).1, x ∈ rows) := by
  obtain ⟨b1, b2, ⟨b3, b3'⟩, b4, b5, b6, b7⟩ := fold_keeps k1 (rows := rows) (s := ([], K, false)) h
  exact ⟨b1, b2, fun e => by rcases b3' e with h | h; cases h; exact h, b5, fun r hr => b6 r (.inl hr), fun x hx => by rcases b7 x hx with h | h; cases h; exact h⟩

/-- a round that finds nothing: no row has just one that isn't known -/
theorem round_still {n k : Nat} (k1 : 1 ≤ k) : ∀ {rows : List LRow} {s : PSt}, KOk n k s.2.1 → (rows.foldl (stepR n k) s).2.2 = false → ∀ r ∈ rows, (missL n r.1 s.2.1).length ≠ 1 := by
  intro rows
  induction rows with
  | nil => intro s _ _ r hr; cases hr
  | cons r rows ih =>
    intro s h hs x hx
    simp only [List.foldl_cons] at hs
    obtain ⟨a1, a2, ⟨a3, a3'⟩, a4, a5, a6, a7, a8⟩ := stepR_keeps k1 (r := r) h
    have e1 : (stepR n k s r).2.2 = false := by
      cases hh : (stepR n k s r).2.2
      · rfl
      · rw [(fold_keeps k1 a1).2.2.2.1 hh] at hs; exact hs
    have e2 := a5 e1
    rcases List.mem_cons.1 hx with rfl | hx
    · intro hl
      rcases miss_cases n x.1 s.2.1 with h0 | ⟨y, hy⟩ | h2
      · omega
      · rw [stepR_one hy] at e1
        cases e1
      · omega
    · have := ih a1 hs x hx
      rwa [e2] at this

/-- all rounds -/
def peelN (n k : Nat) : Nat → List LRow → Kn → Kn
  | 0, _, K => K
  | f + 1, rows, K => if (roundP n k rows K).2.2 = true then peelN n k f (roundP n k rows K).1 (roundP n k rows K).2.1 else (roundP n k rows K).2.1

def peelL (n k : Nat) (rows : List LRow) (K : Kn) : Kn := peelN n k (cntU K + 1) rows K

theorem peelN_same {n k : Nat} (k1 : 1 ≤ k) : ∀ (f f' : Nat) (rows : List LRow) (K : Kn), KOk n k K → cntU K < f → cntU K < f' → peelN n k f rows K = peelN n k f' rows K := by
  intro f
  induction f with
  | zero => intro f' rows K _ h; omega
  | succ f ih =>
    intro f' rows K hK hf hf'
    obtain ⟨f2, rfl⟩ : ∃ f2, f' = f2 + 1 := ⟨f' - 1, by omega⟩
    obtain ⟨b1, b2, b3, b4, b5, b6⟩ := round_keeps k1 (rows := rows) hK
    simp only [peelN]
    by_cases hm : (roundP n k rows K).2.2 = true
    · have h1 := b3 hm
      rw [if_pos hm, if_pos hm]
      exact ih f2 _ _ b1 (by omega) (by omega)
    · rw [if_neg hm, if_neg hm]

theorem peelL_step {n k : Nat} (k1 : 1 ≤ k) (rows : List LRow) (K : Kn) (hK : KOk n k K) : peelL n k rows K = if (roundP n k rows K).2.2 = true then peelL n k (roundP n k rows K).1 (roundP n k rows K).2.1 else (roundP n k rows K).2.1 := by
  obtain ⟨b1, b2, b3, b4, b5, b6⟩ := round_keeps k1 (rows := rows) hK
  conv => lhs; unfold peelL
  simp only [peelN]
  by_cases hm : (roundP n k rows K).2.2 = true
  · have h1 := b3 hm
    rw [if_pos hm, if_pos hm]
    exact peelN_same k1 _ _ _ _ b1 (by omega) (by omega)
  · rw [if_neg hm, if_neg hm]

/-- what holds of the first state and stays by rounds holds at the end, where a round finds nothing -/
theorem peelL_ind {n k : Nat} (k1 : 1 ≤ k) (I : List LRow → Kn → Prop) (step : ∀ rows K, KOk n k K → I rows K → I (roundP n k rows K).1 (roundP n k rows K).2.1) : ∀ (c : Nat) (rows : List LRow) (K : Kn), cntU K ≤ c → KOk n k K → I rows K →
    ∃ rows', KOk n k (peelL n k rows K) ∧ I rows' (peelL n k rows K) ∧ (roundP n k rows' (peelL n k rows K)).2.2 = false := by
  intro c
  induction c with
  | zero =>
    intro rows K hc hK hI
    obtain ⟨b1, b2, b3, b4, b5, b6⟩ := round_keeps k1 (rows := rows) hK
    have hm : (roundP n k rows K).2.2 = false := by
      cases hh : (roundP n k rows K).2.2
      · rfl
      · have := b3 hh; omega
    rw [peelL_step k1 rows K hK, if_neg (by simp [hm]), b4 hm]
    exact ⟨rows, hK, hI, hm⟩
  | succ c ih =>
    intro rows K hc hK hI
    obtain ⟨b1, b2, b3, b4, b5, b6⟩ := round_keeps k1 (rows := rows) hK
    cases hm : (roundP n k rows K).2.2
    · rw [peelL_step k1 rows K hK, if_neg (by simp [hm]), b4 hm]
      exact ⟨rows, hK, hI, hm⟩
    · rw [peelL_step k1 rows K hK, if_pos hm]
      have := b3 hm
      exact ih _ _ (by omega) b1 (step rows K hK hI)

/-- at the end no row has just one block that isn't known -/
theorem peel_closed {n k : Nat} (k1 : 1 ≤ k) (rows : List LRow) (K : Kn) (hK : KOk n k K) : ∀ r ∈ rows, (missL n r.1 (peelL n k rows K)).length ≠ 1 := by
  obtain ⟨rows', h1, h2, h3⟩ := peelL_ind k1 (fun l K => ∀ r ∈ rows, r ∈ l ∨ missL n r.1 K = []) (fun l K hK hI r hr => by
    obtain ⟨b1, b2, b3, b4, b5, b6⟩ := round_keeps k1 (rows := l) hK
    rcases hI r hr with h | h
    · exact b5 r h
    · refine .inr (List.eq_nil_iff_forall_not_mem.2 fun j hj => ?_)
      obtain ⟨h1, h2, h3⟩ := mem_miss.1 hj
      have h4 : ¬ j ∈ missL n r.1 K := by rw [h]; simp
      have h5 : knw K j = true := by
        cases hh : knw K j
        · exact absurd (mem_miss.2 ⟨h1, h2, hh⟩) h4
        · rfl
      rw [b2 j h5] at h3
      cases h3) (cntU K) rows K (Nat.le_refl _) hK (fun r hr => .inl hr)
  intro r hr
  rcases h2 r hr with h | h
  · exact round_still k1 (s := ([], _, false)) h1 h3 r h
  · rw [h]; simp

/-- a property of what is known that each finding keeps holds at the end -/
theorem peel_all {n k : Nat} (k1 : 1 ≤ k) (J : Kn → Prop) (rows : List LRow) (K : Kn) (hK : KOk n k K) (h0 : J K) (one : ∀ K r x, KOk n k K → J K → r ∈ rows → missL n r.1 K = [x] → J (K.set x (restL n k r K))) : J (peelL n k rows K) := by
  have fold : ∀ (l : List LRow) (s : PSt), (∀ r ∈ l, r ∈ rows) → KOk n k s.2.1 → J s.2.1 → J (l.foldl (stepR n k) s).2.1 := by
    intro l
    induction l with
    | nil => intro s _ _ h; exact h
    | cons r l ih =>
      intro s hl hs hj
      simp only [List.foldl_cons]
      refine ih _ (fun x hx => hl x (List.mem_cons_of_mem _ hx)) (stepR_keeps k1 hs).1 ?_
      rcases miss_cases n r.1 s.2.1 with h0 | ⟨x, hx⟩ | h2
      · rw [stepR_none h0]; exact hj
      · rw [stepR_one hx]; exact one _ r x hs hj (hl r List.mem_cons_self) hx
      · rw [stepR_more h2]; exact hj
  obtain ⟨_, _, h, _⟩ := peelL_ind k1 (fun l K => (∀ r ∈ l, r ∈ rows) ∧ J K) (fun l K hK hI => ⟨fun r hr => hI.1 r ((round_keeps k1 hK).2.2.2.2.2 r hr), fold l ([], K, false) hI.1 hK hI.2⟩) (cntU K) rows K (Nat.le_refl _) hK ⟨fun r hr => hr, h0⟩
  exact h.2

/-- of more rows no less is known -/
theorem peel_more {n k : Nat} (k1 : 1 ≤ k) {rows rows' : List LRow} {K : Kn} (hK : KOk n k K) (hs : ∀ r ∈ rows, r ∈ rows') (h0 : ∀ j, knw K j = false) (j : Nat) (hj : knw (peelL n k rows K) j = true) : knw (peelL n k rows' K) j = true := by
  have hc := peel_closed k1 rows' K hK
  refine peel_all k1 (fun M => ∀ j, knw M j = true → knw (peelL n k rows' K) j = true) rows K hK (fun j h => by rw [h0 j] at h; cases h) (fun M r x hM hJ hr hx i hi => ?_) j hj
  have hm : x ∈ missL n r.1 M := by rw [hx]; simp
  obtain ⟨hxn, hxr, hxk⟩ := mem_miss.1 hm
  rw [knw_set (by rw [hM.1]; exact hxn) (restL_ne k1 r M)] at hi
  simp only [Bool.or_eq_true, decide_eq_true_eq] at hi
  rcases hi with rfl | hi
  · cases hh : knw (peelL n k rows' K) i
    · exfalso
      refine hc r (hs r hr) ?_
      have e : missL n r.1 (peelL n k rows' K) = missL n r.1 M := by
        unfold missL
        refine List.filter_congr fun t ht => ?_
        have htn : t < n := List.mem_range.1 ht
        by_cases e : t = i
        · subst e; rw [hh, hxk]
        · by_cases hr2 : r.1.getD t false = true
          · have hkt : knw M t = true := by
              cases h4 : knw M t
              · have : t ∈ missL n r.1 M := mem_miss.2 ⟨htn, hr2, h4⟩
                rw [hx] at this
                simp at this
                exact absurd this e
              · rfl
            rw [hkt, hJ t hkt]
          · have : r.1.getD t false = false := by simpa using hr2
            rw [this]; simp
      rw [e, hx]
      rfl
    · rfl
  · exact hJ i hi

/-- of true rows what is known is the cargo's -/
theorem peel_true {n k : Nat} (k1 : 1 ≤ k) {c : List UInt8} {rows : List LRow} {K : Kn} (hK : KOk n k K) (hT : ∀ r ∈ rows, Tr n (blkAt k c) (LRow.v r)) (h0 : ∀ j, knw K j = false) (j : Nat) : (peelL n k rows K).getD j [] = [] ∨ (peelL n k rows K).getD j [] = piece k j c := by
  refine peel_all k1 (fun M => ∀ j, M.getD j [] = [] ∨ M.getD j [] = piece k j c) rows K hK (fun j => .inl ?_) (fun M r x hM hJ hr hx j => ?_) j
  · have := h0 j
    simpa [knw] using this
  · have hm : x ∈ missL n r.1 M := by rw [hx]; simp
    obtain ⟨hxn, hxr, hxk⟩ := mem_miss.1 hm
    by_cases e : j = x
    · subst e
      refine .inr ?_
      rw [List.getD_eq_getElem?_getD, List.getElem?_set_self (by rw [hM.1]; exact hxn)]
      refine piece_of (restL_length n k r M) fun t => ?_
      by_cases ht : t < k
      · have e1 : (restL n k r M).getD t 0 = r.2.getD t 0 ^^^ sumAt (fun j t => (M.getD j []).getD t 0) (fun j => r.1.getD j false && knw M j) n t := by simp [restL, List.getD_eq_getElem?_getD, ht]
        show (restL n k r M).getD t 0 = _
        rw [e1]
        have e2 : r.2.getD t 0 = sumAt (blkAt k c) (fun j => r.1.getD j false) n t := hT r hr t
        have e3 : sumAt (fun j t => (M.getD j []).getD t 0) (fun j => r.1.getD j false && knw M j) n t = sumAt (blkAt k c) (fun j => r.1.getD j false && knw M j) n t := by
          have gen : ∀ m, sumAt (fun j t => (M.getD j []).getD t 0) (fun j => r.1.getD j false && knw M j) m t = sumAt (blkAt k c) (fun j => r.1.getD j false && knw M j) m t := by
            intro m
            induction m with
            | zero => rfl
            | succ m ih =>
              simp only [sumAt, ih]
              by_cases hb : (r.1.getD m false && knw M m) = true
              · rw [if_pos hb, if_pos hb]
                have hk2 : knw M m = true := by simp at hb; exact hb.2
                rcases hJ m with h | h
                · unfold knw at hk2; rw [h] at hk2; simp at hk2
                · rw [h]; rfl
              · rw [if_neg hb, if_neg hb]
          exact gen n
        have e4 : sumAt (blkAt k c) (fun j => r.1.getD j false) n t = sumAt (blkAt k c) (fun j => r.1.getD j false && knw M j) n t ^^^ (if j < n then blkAt k c j t else 0) := by
          have hv := sumAt_add (blkAt k c) ⟨fun j => r.1.getD j false && knw M j, fun _ => 0⟩ ⟨fun i => decide (i = j), fun _ => 0⟩ n t
          rw [sumAt_one (k := j) (h := fun i => decide (i = j)) (fun i => rfl)] at hv
          rw [← hv]
          refine sumAt_mask fun i hi => ?_
          show r.1.getD i false = ((r.1.getD i false && knw M i) != decide (i = j))
          by_cases e5 : i = j
          · subst e5; simp only [hxr, hxk]; simp
          · by_cases hr2 : r.1.getD i false = true
            · have hkt : knw M i = true := by
                cases h4 : knw M i
                · have : i ∈ missL n r.1 M := mem_miss.2 ⟨hi, hr2, h4⟩
                  rw [hx] at this
                  simp at this
                  exact absurd this e5
                · rfl
              simp [hr2, hkt, e5]
            · have : r.1.getD i false = false := by simpa using hr2
              rw [this]; simp [e5]
        rw [e2, e3, e4, if_pos hxn, UInt8.xor_comm (sumAt _ _ n t) (blkAt k c j t), UInt8.xor_assoc, UInt8.xor_self, UInt8.xor_zero]
      · rw [List.getD_eq_getElem?_getD, List.getElem?_eq_none (by show (restL n k r M).length ≤ t; rw [restL_length]; omega)]
        show (0 : UInt8) = (piece k j c).getD t 0
        rw [piece_getD, if_neg ht]
    · have : (M.set x (restL n k r M)).getD j [] = M.getD j [] := by simp only [List.getD_eq_getElem?_getD, List.getElem?_set_ne (Ne.symm e)]
      rw [this]
      exact hJ j

/-- sums of known units -/
theorem span_units {S : List V} : ∀ (l : List Nat), l.Nodup → (∀ j ∈ l, ∃ v, Span S v ∧ ∀ i, v.has i = decide (i = j)) → ∃ v, Span S v ∧ ∀ i, v.has i = decide (i ∈ l) := by
  intro l
  induction l with
  | nil => intro _ _; exact ⟨V.o, .o, fun i => by simp [V.o]⟩
  | cons a l ih =>
    intro hd h
    have hd' := List.nodup_cons.1 hd
    obtain ⟨v, hv, hvi⟩ := ih hd'.2 fun j hj => h j (List.mem_cons_of_mem _ hj)
    obtain ⟨u, hu, hui⟩ := h a List.mem_cons_self
    refine ⟨v.add u, hv.add hu, fun i => ?_⟩
    show (v.has i != u.has i) = _
    rw [hvi, hui]
    by_cases e : i = a
    · subst e; simp [hd'.1]
    · simp [e]

/-- what is known one by one follows from the rows -/
theorem peel_span {n k : Nat} (k1 : 1 ≤ k) {rows : List LRow} {K : Kn} (hK : KOk n k K) (hf : ∀ r ∈ rows, Fits n k r) (h0 : ∀ j, knw K j = false) (j : Nat) (hj : knw (peelL n k rows K) j = true) : ∃ v, Span (rows.map LRow.v) v ∧ ∀ i, v.has i = decide (i = j) := by
  refine peel_all k1 (fun M => ∀ j, knw M j = true → ∃ v, Span (rows.map LRow.v) v ∧ ∀ i, v.has i = decide (i = j)) rows K hK (fun j h => by rw [h0 j] at h; cases h) (fun M r x hM hJ hr hx j hj => ?_) j hj
  have hm : x ∈ missL n r.1 M := by rw [hx]; simp
  obtain ⟨hxn, hxr, hxk⟩ := mem_miss.1 hm
  rw [knw_set (by rw [hM.1]; exact hxn) (restL_ne k1 r M)] at hj
  simp only [Bool.or_eq_true, decide_eq_true_eq] at hj
  rcases hj with rfl | hj
  · obtain ⟨v, hv, hvi⟩ := span_units (S := rows.map LRow.v) (useL n r.1 M) ((List.nodup_range (n := n)).filter _) fun i hi => hJ i (mem_use.1 hi).2.2
    refine ⟨(LRow.v r).add v, (Span.mem (List.mem_map_of_mem hr)).add hv, fun i => ?_⟩
    show (r.1.getD i false != v.has i) = _
    rw [hvi]
    by_cases hr2 : r.1.getD i false = true
    · have hin : i < n := by
        by_cases h : i < n
        · exact h
        · rw [List.getD_eq_getElem?_getD, List.getElem?_eq_none (by rw [(hf r hr).1]; omega)] at hr2
          cases hr2
      by_cases e5 : i = j
      · subst e5
        have : ¬ i ∈ useL n r.1 M := fun h => by rw [(mem_use.1 h).2.2] at hxk; cases hxk
        rw [hr2]
        simp [this]
      · have hkt : knw M i = true := by
          cases h4 : knw M i
          · have : i ∈ missL n r.1 M := mem_miss.2 ⟨hin, hr2, h4⟩
            rw [hx] at this
            simp at this
            exact absurd this e5
          · rfl
        have : i ∈ useL n r.1 M := mem_use.2 ⟨hin, hr2, hkt⟩
        rw [hr2]
        simp [this, e5]
    · have h1 : r.1.getD i false = false := by simpa using hr2
      have h2 : ¬ i ∈ useL n r.1 M := fun h => hr2 (mem_use.1 h).2.1
      have h3 : i ≠ j := by intro e; subst e; exact hr2 hxr
      rw [h1]
      simp [h2, h3]
  · exact hJ j hj

/-- where all is known one by one, Decode knows the cargo -/
theorem peel_decode {B K' : Int} {n k nb : Nat} (g : Good B K' n k nb) {c : List UInt8} (hc : c.length = n) {ids : List Nat} (hi : ∀ i ∈ ids, i ≤ 9999) (hl : ids.length ≤ 60) {K : Kn} (hK : KOk nb k K) (h0 : ∀ j, knw K j = false) (hall : ∀ j, j < nb → knw (peelL nb k (ids.map (symRow nb k c)) K) j = true) :
    decCode B K' (ids.map (symOf nb k c)) = 0 ∧ decRes B K' (ids.map (symOf nb k c)) = c := by
  obtain ⟨P, hP, hR, hS, hT, hA⟩ := sym_rows g c ids hi
  have hfull := hR.sys.full hR.of fun j hj => by
    obtain ⟨v, hv, hvi⟩ := peel_span g.k1 hK (fun r hr => by obtain ⟨i, _, rfl⟩ := List.mem_map.1 hr; exact symRow_fits nb k c i) h0 j (hall j hj)
    exact ⟨v, (hS v).2 hv, by rw [hvi]; simp, fun i hi => by rw [hvi]; simp; omega⟩
  rcases dec_true g hc hi hl hP with ⟨h, _⟩ | ⟨_, h1, h2⟩
  · simp at hfull; omega
  · exact ⟨h1, h2⟩

end Go.Proofs.YtkiejflgphjfjadDoor

/-
  slices.Grow of nothing and slices.Concat of blocks: the contract of each.
-/
namespace Go.Proofs.YtkiejflgphjfjadDoor
open Go.RowKit
set_option linter.unusedVariables false
set_option linter.unusedSimpArgs false

theorem zeroCells_size (z : Value) (n : Nat) : (Builtin.zeroCells #[z] n).size = n := by simp [Builtin.zeroCells]

theorem storeCells_nil {P : Program} (w : World) (a : Addr) (i : Nat) : (storeCells a [] i).run P w = .ok () w := rfl

/-- append of a slice that has nothing -/
theorem run_append_nothing {P : Program} (w : World) (t ty e : TypeId) (i : TypeInfo) (ht : P.underlying t = some (.slice e)) (hi : P.info? e = some i) (base : Option Addr) (n cap c : Nat) (h : n ≤ cap) :
    (Builtin.append_ #[t, t] ty #[.slice base n cap, .slice none 0 c]).run P w = .ok (.slice base n cap) w := by
  cases base with
  | none => simp [Builtin.append_, run_underlying ht, sizeOf, typeInfo, hi, Builtin.lenOf, Builtin.firstCells, h]
  | some a => simp [Builtin.append_, run_underlying ht, sizeOf, typeInfo, hi, Builtin.lenOf, Builtin.firstCells, h, storeCells_nil]

/-- how many bytes the first m have -/
def totTo (bl : List Blk) (m : Nat) : Nat := (((bl.map Blk.l).take m).flatten).length

theorem totTo_succ {bl : List Blk} {m : Nat} (h : m < bl.length) : totTo bl (m + 1) = totTo bl m + bl[m].l.length := by
  unfold totTo
  rw [List.take_succ_eq_append_getElem (by simpa using h)]
  simp

theorem totTo_le (bl : List Blk) (m : Nat) : totTo bl m ≤ ((bl.map Blk.l).flatten).length := by
  unfold totTo
  have h := congrArg (fun l => l.flatten.length) (List.take_append_drop m (bl.map Blk.l))
  simp only [List.flatten_append, List.length_append] at h
  omega

theorem concat_step {w wr w1 : World} {v v' : Value} {bl : List Blk} {m : Nat} (hlt : m < bl.length) (hb : Below w.heap.size w wr) (ho : wr.ownsRow w.heap.size 5 1 v (totTo bl m) (bs ((bl.map Blk.l).take m).flatten))
    (ho' : w1.ownsRow w.heap.size 5 1 v' (totTo bl m + bl[m].l.length) (bs ((bl.map Blk.l).take m).flatten ++ bs bl[m].l)) (hg : wr.grownBy w1 v.ownBlock) :
    w1.ownsRow w.heap.size 5 1 v' (totTo bl (m + 1)) (bs ((bl.map Blk.l).take (m + 1)).flatten) ∧ Below w.heap.size w w1 := by
  refine ⟨?_, hb.grown hg hb.size fun g hg' => (ho.lt g hg').1⟩
  rw [totTo_succ hlt, List.take_succ_eq_append_getElem (by simpa using hlt)]
  simpa [bs] using ho'

theorem lies_none {w : World} {l : List UInt8} (h : Lies w none (bs l)) : l = [] := by
  cases l with
  | nil => rfl
  | cons x r =>
    obtain ⟨_, _, e, _⟩ := h 0 _ (by simp [bs]; rfl)
    simp at e

theorem lies_add {w : World} {ad : Addr} {l : List UInt8} (h : Lies w (some ad) (bs l)) : ∀ j u, (bs l)[j]? = some u → w.cell? (ad.add j) = some u := by
  intro j u hu
  obtain ⟨b, o, e, hc⟩ := h j u hu
  simp at e
  subst e
  simpa [Addr.add_lit] using hc

theorem own_none {w : World} {B : Nat} {e : TypeId} {n q : Nat} {xs : List Value} (h : w.ownsRow B e 1 (.slice none n q) n xs) : q = 0 := by
  rcases h.2 with ⟨e1, h0⟩ | ⟨g, cap, cur, e1, hb, hg, hnc, hcm, hcs, htake⟩
  · simp at e1
    exact e1.2
  · simp at e1

end Go.Proofs.YtkiejflgphjfjadDoor

/-
  pick.next and pick.howMany: the contract of each.
-/
namespace Go.Proofs.YtkiejflgphjfjadDoor
open Go.RowKit
set_option linter.unusedVariables false
set_option linter.unusedSimpArgs false

/-- the variable's cells -/
def limV : List Value := [.int .i64 8192, .int .i64 40960, .int .i64 51882, .int .i64 57344, .int .i64 60621]

/-- the program's limits are laid as its text lays them -/
def Laid (w : World) : Prop := Lies w (some ⟨0, 0, none⟩) limV

theorem Laid.below {w w' : World} (h : Laid w) (hb : Below w.heap.size w w') : Laid w' := Lies.below hb h (Nat.le_refl _)

theorem next_any (x : Nat) (w : World) (hx : x < 65536) :
    Calls Tryd.prog 35 #[.int .i64 x] w fun e w' => e = .returned (.int .i64 (nx x : Nat)) ∧ w = w' := by
  go_enter Tryd.func35, Tryd.ntmps35
  go_wp2
  go_ret
  exact ⟨ret_int (by simp [nx]), rfl⟩

theorem howMany_any (x b : Nat) (w : World) (hx : x < 65536) (hb : b ≤ 24) (hL : Laid w) :
    Calls Tryd.prog 36 #[.int .i64 x, .int .i64 b] w fun e w' => e = .returned (.int .i64 (many b x : Nat)) ∧ w = w' := by
  have c0 := Lies.at hL (k := 0) rfl
  have c1 := Lies.at hL (k := 1) rfl
  have c2 := Lies.at hL (k := 2) rfl
  have c3 := Lies.at hL (k := 3) rfl
  have c4 := Lies.at hL (k := 4) rfl
  have i0 : ∀ W : World, (Instr.index 89 (.agg #[.int .i64 8192, .int .i64 40960, .int .i64 51882, .int .i64 57344, .int .i64 60621]) (.int .i64 0)).run Tryd.prog W = .ok (.int .i64 8192) W := fun _ => by kernel_rfl
  have i1 : ∀ W : World, (Instr.index 89 (.agg #[.int .i64 8192, .int .i64 40960, .int .i64 51882, .int .i64 57344, .int .i64 60621]) (.int .i64 1)).run Tryd.prog W = .ok (.int .i64 40960) W := fun _ => by kernel_rfl
  have i2 : ∀ W : World, (Instr.index 89 (.agg #[.int .i64 8192, .int .i64 40960, .int .i64 51882, .int .i64 57344, .int .i64 60621]) (.int .i64 2)).run Tryd.prog W = .ok (.int .i64 51882) W := fun _ => by kernel_rfl
  have i3 : ∀ W : World, (Instr.index 89 (.agg #[.int .i64 8192, .int .i64 40960, .int .i64 51882, .int .i64 57344, .int .i64 60621]) (.int .i64 3)).run Tryd.prog W = .ok (.int .i64 57344) W := fun _ => by kernel_rfl
  have i4 : ∀ W : World, (Instr.index 89 (.agg #[.int .i64 8192, .int .i64 40960, .int .i64 51882, .int .i64 57344, .int .i64 60621]) (.int .i64 4)).run Tryd.prog W = .ok (.int .i64 60621) W := fun _ => by kernel_rfl
  go_enter Tryd.func36, Tryd.ntmps36
  clear hL
  go_wp2
  clear c0 c1 c2 c3 c4
  go_loopw [8] (fun i wr => ∃ k : Nat, k ≤ 5 ∧ i = .int .i64 k ∧ wr = w ∧ Hid (∀ j, j < k → lim.getD j 0 ≤ x)) (fun i _ => 5 - (intOf i).toNat)
  case atStart => exact ⟨0, Nat.zero_le _, rfl, rfl, fun j hj => by omega⟩
  case round =>
    obtain ⟨k, hk, rfl, rfl, HL⟩ := hrel
    by_cases hlt : k < 5
    · by_cases hx2 : x < lim.getD k 0
      · have HM : Hid (many b x = min (k + 1) b) := many_at hlt HL.out hx2
        have h5 : k = 0 ∨ k = 1 ∨ k = 2 ∨ k = 3 ∨ k = 4 := by omega
        clear hlt hk HL
        obtain ⟨L, hLk⟩ : ∃ L : Int, L = lim.getD k 0 := ⟨_, rfl⟩
        have hx3 : (x : Int) < L := by omega
        have hi : ∀ W : World, (Instr.index 89 (.agg #[.int .i64 8192, .int .i64 40960, .int .i64 51882, .int .i64 57344, .int .i64 60621]) (.int .i64 k)).run Tryd.prog W = .ok (.int .i64 L) W := by
          rcases h5 with rfl | rfl | rfl | rfl | rfl
          · rw [hLk]; exact i0
          · rw [hLk]; exact i1
          · rw [hLk]; exact i2
          · rw [hLk]; exact i3
          · rw [hLk]; exact i4
        have hk5 : (k : Int) < 5 := by omega
        clear i0 i1 i2 i3 i4 hLk hx2 h5 hx
        go_wp2
        all_goals go_ret
        all_goals exact ⟨ret_int (by rw [HM.out]; omega), rfl⟩
      · have HN : Hid (∀ j, j < k + 1 → lim.getD j 0 ≤ x) := fun j hj => by
          by_cases e : j = k
          · subst e; omega
          · exact HL.out j (by omega)
        have h5 : k = 0 ∨ k = 1 ∨ k = 2 ∨ k = 3 ∨ k = 4 := by omega
        clear hlt hk HL
        obtain ⟨L, hLk⟩ : ∃ L : Int, L = lim.getD k 0 := ⟨_, rfl⟩
        have hx3 : L ≤ (x : Int) := by omega
        have hi : ∀ W : World, (Instr.index 89 (.agg #[.int .i64 8192, .int .i64 40960, .int .i64 51882, .int .i64 57344, .int .i64 60621]) (.int .i64 k)).run Tryd.prog W = .ok (.int .i64 L) W := by
          rcases h5 with rfl | rfl | rfl | rfl | rfl
          · rw [hLk]; exact i0
          · rw [hLk]; exact i1
          · rw [hLk]; exact i2
          · rw [hLk]; exact i3
          · rw [hLk]; exact i4
        have hk5 : (k : Int) < 5 := by omega
        clear i0 i1 i2 i3 i4 hLk hx2 hx
        go_wp2
        go_roundw
        case rel => exact ⟨k + 1, by omega, by go_num, trivial, HN⟩
        case measure => simp [intOf]; omega
    · obtain rfl : k = 5 := by omega
      have HM : Hid (many b x = max (b / 2) 1) := many_end HL.out
      clear hlt hk HL
      go_wp2
      all_goals go_ret
      all_goals exact ⟨ret_int (by rw [HM.out]; omega), rfl⟩

end Go.Proofs.YtkiejflgphjfjadDoor

/-
  pick.Of: its contract.
-/
namespace Go.Proofs.YtkiejflgphjfjadDoor
open Go.RowKit
set_option linter.unusedVariables false
set_option linter.unusedSimpArgs false

/-- what is wrong with a symbol's number, and a number of blocks -/
def OutOf (id b : Int) : Prop := id < 0 ∨ 9999 < id ∨ b < 1 ∨ 24 < b

instance (id b : Int) : Decidable (OutOf id b) := by unfold OutOf; infer_instance

/-- the cells of the answer -/
def inAt (l : List Nat) (k : Nat) : Value := .bool (decide (k ∈ l))

theorem infoB : (Tryd.prog.info? 4).map (fun i => (i.zero, i.size, i.bytes)) = some (some (.bool false), 1, 1) := by kernel_rfl

theorem of_bad (id b : Int) (w : World) (h : OutOf id b) :
    Calls Tryd.prog 23 #[.int .i64 id, .int .i64 b] w fun e w' => e = .returned (.tuple #[.slice none 0 0, .int .i64 3]) ∧ w = w' := by
  have h1 : id < 0 ∨ 0 ≤ id := by omega
  have h2 : 9999 < id ∨ id ≤ 9999 := by omega
  have h3 : b < 1 ∨ 1 ≤ b := by omega
  unfold OutOf at h
  rcases h1 with h1 | h1
  · clear h h2 h3
    go_enter Tryd.func23, Tryd.ntmps23
    go_wp2
    go_ret2
    exact ⟨rfl, rfl⟩
  rcases h2 with h2 | h2
  · clear h h3
    go_enter Tryd.func23, Tryd.ntmps23
    go_wp2
    go_ret2
    exact ⟨rfl, rfl⟩
  rcases h3 with h3 | h3
  · clear h
    go_enter Tryd.func23, Tryd.ntmps23
    go_wp2
    go_ret2
    exact ⟨rfl, rfl⟩
  have h4 : 24 < b := by omega
  clear h
  go_enter Tryd.func23, Tryd.ntmps23
  go_wp2
  go_ret2
  exact ⟨rfl, rfl⟩

theorem inAt_none (k : Nat) : inAt [] k = .bool false := by simp [inAt]

theorem madeAt {b i : Nat} (h : i < b) : (madeCells #[Value.bool false] b)[i]? = some (.bool false) := by simp [madeCells, h, Nat.mod_one]

theorem row_one {w : World} {b i : Nat} {t : TypeId} (h : i < b) : (w.alloc (.cells ((madeCells #[Value.bool false] b).setIfInBounds i (.bool true)) t)).rowIs w.heap.size t b (inAt [i]) := by
  refine ⟨_, by rw [heap_alloc_eq, if_pos rfl], by simp [size_madeCells], fun j hj => ?_⟩
  rw [Array.getElem?_setIfInBounds]
  by_cases e : i = j
  · subst e
    rw [if_pos rfl, if_pos (by simpa [size_madeCells] using hj)]
    simp [inAt]
  · rw [if_neg e, madeAt hj]
    simp [inAt, show ¬ j = i from fun h => e h.symm]

theorem of_low (i b : Nat) (w : World) (hi : i ≤ 9999) (h1 : 1 ≤ b) (hb : b ≤ 24) (hlt : i < b) :
    Calls Tryd.prog 23 #[.int .i64 i, .int .i64 b] w fun e w' => ∃ g, e = .returned (.tuple #[.slice (some ⟨g, 0, none⟩) b b, .int .i64 0]) ∧ w.heap.size ≤ g ∧ w'.rowIs g 4 b (inAt (chosen b i)) ∧ Below w.heap.size w w' := by
  have hmk := run_make_row' (P := Tryd.prog) 62 4 (.bool false) 1 Tryd.underlying62 infoB rfl .i64 .i64 b (by omega) (by omega)
  have hat := madeAt hlt
  go_enter Tryd.func23, Tryd.ntmps23
  go_wp2
  go_ret2
  exact ⟨_, rfl, Nat.le_refl _, by rw [chosen_low hlt]; exact row_one hlt, (Below.refl _ _).alloc (Nat.le_refl _) _⟩

/-- the loop's state after n steps -/
def OfInv (w wr : World) (g b x0 n : Nat) : Prop := wr.rowIs g 4 b (inAt (coll b x0 n)) ∧ Below w.heap.size w wr ∧ g < wr.heap.size

/-- a step that brings nothing new -/
theorem step_old {b x0 n x y k m mi : Nat} (hb : b ≤ 24) (HM1 : Shut (m ≤ b)) (HN : Shut ((coll b x0 n).length < m)) (HXE : Shut (it n x0 = x)) (HME : Shut (m - (coll b x0 n).length = mi)) (HY : Shut (nx x = y)) (HK : Shut (y / 7 % b = k)) (HIN : Shut (k ∈ coll b x0 n)) :
    coll b x0 (n + 1) = coll b x0 n ∧ it (n + 1) x0 = y ∧ toGo b x0 m mi y < toGo b x0 m mi x := by
  have h : newOne b (coll b x0 n) (nx (it n x0)) = false := by
    simp only [newOne, blkOf]
    rw [HXE.out, HY.out, HK.out]
    simpa using HIN.out
  refine ⟨coll_old h, by rw [it_next, HXE.out, HY.out], ?_⟩
  have := toGo_old hb HM1.out HN.out h
  rwa [HXE.out, HY.out, HME.out] at this

/-- a step that brings a new block -/
theorem step_new {b x0 n x y k m mi : Nat} (HN : Shut ((coll b x0 n).length < m)) (HXE : Shut (it n x0 = x)) (HME : Shut (m - (coll b x0 n).length = mi)) (HY : Shut (nx x = y)) (HK : Shut (y / 7 % b = k)) (HIN : Shut (¬ k ∈ coll b x0 n)) :
    coll b x0 (n + 1) = coll b x0 n ++ [k] ∧ it (n + 1) x0 = y ∧ toGo b x0 m (mi - 1) y < toGo b x0 m mi x := by
  have h : newOne b (coll b x0 n) (nx (it n x0)) = true := by
    simp only [newOne, blkOf]
    rw [HXE.out, HY.out, HK.out]
    simpa using HIN.out
  refine ⟨?_, by rw [it_next, HXE.out, HY.out], ?_⟩
  · rw [coll_new h, blkOf, HXE.out, HY.out, HK.out]
  · have := toGo_new (b := b) HN.out y
    rw [HXE.out, HME.out, show m - ((coll b x0 n).length + 1) = mi - 1 by have := HME.out; omega] at this
    exact this

theorem row_set {w : World} {g b k : Nat} {t : TypeId} {l : List Nat} (h : w.rowIs g t b (inAt l)) : (w.setCell ⟨g, k, none⟩ (.bool true)).rowIs g t b (inAt (l ++ [k])) := by
  refine (h.set k _).congr fun j hj => ?_
  by_cases e : j = k
  · subst e; simp [inAt]
  · rw [if_neg e]; simp [inAt, e]

set_option maxHeartbeats 400000 in
theorem of_high (i b : Nat) (w : World) (hi : i ≤ 9999) (h1 : 1 ≤ b) (hb : b ≤ 24) (hge : b ≤ i) (hL : Laid w) :
    Calls Tryd.prog 23 #[.int .i64 i, .int .i64 b] w fun e w' => ∃ g, e = .returned (.tuple #[.slice (some ⟨g, 0, none⟩) b b, .int .i64 0]) ∧ w.heap.size ≤ g ∧ w'.rowIs g 4 b (inAt (chosen b i)) ∧ Below w.heap.size w w' := by
  have hmk := run_make_row' (P := Tryd.prog) 62 4 (.bool false) 1 Tryd.underlying62 infoB rfl .i64 .i64 b (by omega) (by omega)
  have H0 : Shut (OfInv w (w.alloc (.cells (madeCells #[.bool false] b) 4)) w.heap.size b (nx i) 0) :=
    ⟨(World.rowIs_made w _ b _).congr fun j hj => (inAt_none j).symm, (Below.refl _ _).alloc (Nat.le_refl _) _, by simp⟩
  have HL1 : Shut (Laid (w.alloc (.cells (madeCells #[.bool false] b) 4))) := ⟨hL.below ((Below.refl _ _).alloc (Nat.le_refl _) _)⟩
  have HX0 := nx_small i
  have HM1 : Shut (many b (nx i) ≤ b) := ⟨many_le h1 (nx i)⟩
  have HC : Shut (∀ n, (coll b (nx i) n).length = many b (nx i) → chosen b i = coll b (nx i) n) := ⟨fun n hn => chosen_high (by omega) hn⟩
  go_enter Tryd.func23, Tryd.ntmps23
  go_wp2_with fail
  refine (next_any i _ (by omega)).mono ?_
  rintro e w1 ⟨rfl, rfl⟩
  go_wp2_with fail
  refine (howMany_any (nx i) b _ HX0.lt hb HL1.out).mono ?_
  rintro e w1 ⟨rfl, rfl⟩
  clear hL HL1 hmk
  generalize (w.alloc (.cells (madeCells #[.bool false] b) 4)) = w1 at *
  generalize nx i = x0 at *
  generalize many b x0 = m at *
  go_wp2
  go_loopw [7, 8] (fun x mi wr => ∃ n : Nat, (coll b x0 n).length ≤ m ∧ x = .int .i64 (it n x0 : Nat) ∧ mi = .int .i64 (m - (coll b x0 n).length : Nat) ∧ Shut (OfInv w wr w.heap.size b x0 n)) (fun x mi _ => toGo b x0 m (intOf mi).toNat (intOf x).toNat)
  case atStart => exact ⟨0, Nat.zero_le _, rfl, rfl, H0⟩
  case round =>
    clear H0
    obtain ⟨n, hn, rfl, rfl, hI⟩ := hrel
    by_cases hlt : (coll b x0 n).length < m
    · have HN : Shut ((coll b x0 n).length < m) := ⟨hlt⟩
      have hmi : 0 < m - (coll b x0 n).length := by omega
      have hmb : m - (coll b x0 n).length ≤ 24 := by have := HM1.out; omega
      have HS := it_small HX0 n
      clear hlt hn
      generalize hxe : it n x0 = x at *
      have HXE : Shut (it n x0 = x) := ⟨hxe⟩
      generalize hme : m - (coll b x0 n).length = mi at *
      have HME : Shut (m - (coll b x0 n).length = mi) := ⟨hme⟩
      clear hxe hme
      go_wp2_with fail
      refine (next_any x _ HS.lt).mono ?_
      rintro e w2 ⟨rfl, rfl⟩
      obtain ⟨y, hy⟩ : ∃ y, nx x = y := ⟨_, rfl⟩
      rw [hy]
      have HY : Shut (nx x = y) := ⟨hy⟩
      have hyb : y < 1000000 := by have := nx_lt x; omega
      clear hy
      obtain ⟨k, hk⟩ : ∃ k, y / 7 % b = k := ⟨_, rfl⟩
      have hq : (y : Int) / 7 % (b : Int) = (k : Int) := by rw [← hk]; simp
      have hkb : k < b := by rw [← hk]; exact Nat.mod_lt _ (by omega)
      have HK : Shut (y / 7 % b = k) := ⟨hk⟩
      clear hk
      have c1 := hI.out.1.cell hkb
      have c2 := hI.out.1.frozen k
      have z1 := hI.out.2.2
      simp only [inAt] at c1
      by_cases hin : k ∈ coll b x0 n
      · rw [decide_eq_true hin] at c1
        have HIN : Shut (k ∈ coll b x0 n) := ⟨hin⟩
        clear hin
        go_wp2
        obtain ⟨s1, s2, s3⟩ := step_old hb HM1 HN HXE HME HY HK HIN
        exact ⟨⟨n + 1, by rw [s1]; exact Nat.le_of_lt HN.out, by rw [s2], by rw [s1, HME.out], ⟨by have h := hI.out; unfold OfInv at h ⊢; rw [s1]; exact h⟩⟩, s3⟩
      · rw [decide_eq_false hin] at c1
        have HIN : Shut (¬ k ∈ coll b x0 n) := ⟨hin⟩
        clear hin
        go_wp2
        obtain ⟨s1, s2, s3⟩ := step_new HN HXE HME HY HK HIN
        have e1 : (mi : Int) - 1 = ((mi - 1 : Nat) : Int) := by omega
        have hN := HN.out
        have hE := HME.out
        rw [e1]
        refine ⟨⟨n + 1, by rw [s1]; simp; omega, by rw [s2], by rw [s1]; congr 2; simp; omega, ⟨?_⟩⟩, s3⟩
        have h := hI.out
        unfold OfInv at h ⊢
        rw [s1]
        exact ⟨row_set h.1, h.2.1.setCell (Nat.le_refl _) _, by simpa using h.2.2⟩
    · have hz : m - (coll b x0 n).length = 0 := by omega
      have HE : Shut ((coll b x0 n).length = m) := ⟨by omega⟩
      rw [hz]
      clear hz hlt hn
      generalize it n x0 = x at *
      go_wp2
      go_ret2
      exact ⟨_, rfl, Nat.le_refl _, by rw [HC.out n HE.out]; exact hI.out.1, hI.out.2.1⟩

/-- pick.Of -/
theorem of_any (i b : Nat) (w : World) (hi : i ≤ 9999) (h1 : 1 ≤ b) (hb : b ≤ 24) (hL : Laid w) :
    Calls Tryd.prog 23 #[.int .i64 i, .int .i64 b] w fun e w' => ∃ g, e = .returned (.tuple #[.slice (some ⟨g, 0, none⟩) b b, .int .i64 0]) ∧ w.heap.size ≤ g ∧ w'.rowIs g 4 b (inAt (chosen b i)) ∧ Below w.heap.size w w' := by
  by_cases h : i < b
  · exact of_low i b w hi h1 hb h
  · exact of_high i b w hi h1 hb (by omega) hL

end Go.Proofs.YtkiejflgphjfjadDoor

/-
  slices.Index and slices.Contains at ints: the contract of each.
-/
namespace Go.Proofs.YtkiejflgphjfjadDoor
open Go.RowKit
set_option linter.unusedVariables false
set_option linter.unusedSimpArgs false

theorem not_in_next {xs : List Int} {k : Nat} {v : Int} (h : ¬ v ∈ xs.take k) (hk : k < xs.length) (hne : ¬ v = xs[k]) : ¬ v ∈ xs.take (k + 1) := by
  rw [List.take_succ_eq_append_getElem hk]
  intro hm
  rcases List.mem_append.1 hm with hm | hm
  · exact h hm
  · exact hne (List.mem_singleton.1 hm)

end Go.Proofs.YtkiejflgphjfjadDoor

/-
  No sort in this program: nothing.
-/
