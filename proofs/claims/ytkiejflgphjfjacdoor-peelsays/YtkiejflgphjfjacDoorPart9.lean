import Derived.Test.YtkiejflgphjfjacDoorPart8
import Derived.Test.YtkiejflgphjfjacDoorPart7
import Derived.Lib.AppendZeros
import Derived.Test.YtkiejflgphjfjacDoorPart1
import Derived.Test.YtkiejflgphjfjacDoorPart6
/-
  Chapter 6 in plain functions on lists: what is known one by one; that it ends, that it is true, that more symbols tell no less. Nothing of any program.
-/
namespace Go.Proofs.YtkiejflgphjfjacDoor
open Go.RowKit
set_option linter.unusedVariables false
set_option linter.unusedSimpArgs false

/-- what is known of each block; [] : nothing -/
abbrev Kn := List (List UInt8)

def knw (K : Kn) (j : Nat) : Bool := !(K.getD j []).isEmpty
def missL (n : Nat) (h : List Bool) (K : Kn) : List Nat := (List.range n).filter fun j => h.getD j false && !knw K j
def useL (n : Nat) (h : List Bool) (K : Kn) : List Nat := (List.range n).filter fun j => h.getD j false && knw K j

/-- what is left of a row: its bytes and those of the known blocks, added -/
def restL (n k : Nat) (r : LRow) (K : Kn) : List UInt8 := (List.range k).map fun t => r.2.getD t 0 ^^^ sumAt (fun j t => (K.getD j []).getD t 0) (fun j => r.1.getD j false && knw K j) n t

theorem restL_length (n k : Nat) (r : LRow) (K : Kn) : (restL n k r K).length = k := by simp [restL]

/-- the state of a round: what is left, what is known, whether something was found -/
abbrev PSt := List LRow × Kn × Bool

def stepR (n k : Nat) (s : PSt) (r : LRow) : PSt :=
  match missL n r.1 s.2.1 with
  | [] => s
  | [x] => (s.1, s.2.1.set x (restL n k r s.2.1), true)
  | _ => (s.1 ++ [r], s.2.1, s.2.2)

def roundP (n k : Nat) (rows : List LRow) (K : Kn) : PSt := rows.foldl (stepR n k) ([], K, false)

def KOk (n k : Nat) (K : Kn) : Prop := K.length = n ∧ ∀ d ∈ K, d = [] ∨ d.length = k

def cntU (K : Kn) : Nat := K.countP (·.isEmpty)

theorem stepR_none {n k : Nat} {s : PSt} {r : LRow} (h : (missL n r.1 s.2.1).length = 0) : stepR n k s r = s := by
  unfold stepR
  rw [List.eq_nil_of_length_eq_zero h]

theorem stepR_one {n k x : Nat} {s : PSt} {r : LRow} (h : missL n r.1 s.2.1 = [x]) : stepR n k s r = (s.1, s.2.1.set x (restL n k r s.2.1), true) := by
  unfold stepR
  rw [h]

theorem stepR_more {n k : Nat} {s : PSt} {r : LRow} (h : 2 ≤ (missL n r.1 s.2.1).length) : stepR n k s r = (s.1 ++ [r], s.2.1, s.2.2) := by
  unfold stepR
  match hm : missL n r.1 s.2.1, h with
  | a :: b :: l, _ => rfl

/-- the three ways -/
theorem miss_cases (n : Nat) (h : List Bool) (K : Kn) : (missL n h K).length = 0 ∨ (∃ x, missL n h K = [x]) ∨ 2 ≤ (missL n h K).length := by
  match hm : missL n h K with
  | [] => exact .inl rfl
  | [x] => exact .inr (.inl ⟨x, rfl⟩)
  | a :: b :: l => exact .inr (.inr (by simp))

theorem mem_miss {n : Nat} {h : List Bool} {K : Kn} {j : Nat} : j ∈ missL n h K ↔ j < n ∧ h.getD j false = true ∧ knw K j = false := by simp [missL]

theorem mem_use {n : Nat} {h : List Bool} {K : Kn} {j : Nat} : j ∈ useL n h K ↔ j < n ∧ h.getD j false = true ∧ knw K j = true := by simp [useL]

theorem knw_set {K : Kn} {x : Nat} {d : List UInt8} (hx : x < K.length) (hd : d ≠ []) (j : Nat) : knw (K.set x d) j = (decide (j = x) || knw K j) := by
  unfold knw
  by_cases e : j = x
  · subst e
    simp [List.getD_eq_getElem?_getD, List.getElem?_set_self hx, hd]
  · simp only [List.getD_eq_getElem?_getD, List.getElem?_set_ne (Ne.symm e)]
    simp [e]

theorem restL_ne {n k : Nat} (k1 : 1 ≤ k) (r : LRow) (K : Kn) : restL n k r K ≠ [] := by
  intro e
  have := congrArg List.length e
  rw [restL_length] at this
  simp at this
  omega

theorem KOk.set {n k x : Nat} {K : Kn} {d : List UInt8} (h : KOk n k K) (hd : d.length = k) : KOk n k (K.set x d) := by
  refine ⟨by simp [h.1], fun e he => ?_⟩
  rcases List.mem_or_eq_of_mem_set he with h1 | rfl
  · exact h.2 e h1
  · exact .inr hd

theorem cntU_set : ∀ {K : Kn} {x : Nat} {d : List UInt8}, x < K.length → knw K x = false → d ≠ [] → cntU (K.set x d) + 1 = cntU K := by
  intro K
  induction K with
  | nil => intro x d hx; simp at hx
  | cons e K ih =>
    intro x d hx hk hd
    cases x with
    | zero =>
      have he : e = [] := by simpa [knw] using hk
      subst he
      simp [cntU, hd]
    | succ x =>
      have := ih (x := x) (d := d) (by simpa using hx) (by simpa [knw] using hk) hd
      simp only [cntU, List.set_cons_succ, List.countP_cons] at *
      omega

/-- what a step does, told once -/
theorem stepR_keeps {n k : Nat} (k1 : 1 ≤ k) {s : PSt} {r : LRow} (h : KOk n k s.2.1) : KOk n k (stepR n k s r).2.1 ∧ (∀ j, knw s.2.1 j = true → knw (stepR n k s r).2.1 j = true) ∧ (cntU (stepR n k s r).2.1 ≤ cntU s.2.1 ∧ ((stepR n k s r).2.2 = true → s.2.2 = true ∨ cntU (stepR n k s r).2.1 < cntU s.2.1)) ∧ (s.2.2 = true → (stepR n k s r).2.2 = true) ∧ ((stepR n k s r).2.2 = false → (stepR n k s r).2.1 = s.2.1) ∧
    (r ∈ (stepR n k s r).1 ∨ missL n r.1 (stepR n k s r).2.1 = []) ∧ (∀ x ∈ s.1, x ∈ (stepR n k s r).1) ∧ (∀ x ∈ (stepR n k s r).1, x ∈ s.1 ∨ x = r) := by
  rcases miss_cases n r.1 s.2.1 with h0 | ⟨x, hx⟩ | h2
  · rw [stepR_none h0]
    exact ⟨h, fun j hj => hj, ⟨Nat.le_refl _, fun e => .inl e⟩, fun e => e, fun _ => rfl, .inr (List.eq_nil_of_length_eq_zero h0), fun x hx => hx, fun x hx => .inl hx⟩
  · rw [stepR_one hx]
    have hm : x ∈ missL n r.1 s.2.1 := by rw [hx]; simp
    obtain ⟨hxn, hxr, hxk⟩ := mem_miss.1 hm
    have hxl : x < s.2.1.length := by rw [h.1]; exact hxn
    have hne := restL_ne (n := n) k1 r s.2.1
    have hc := cntU_set hxl hxk hne
    refine ⟨h.set (restL_length n k r s.2.1), fun j hj => ?_, ⟨by simp only; omega, fun _ => .inr (by simp only; omega)⟩, fun _ => rfl, fun e => by simp at e, .inr ?_, fun x hx => hx, fun x hx => .inl hx⟩
    · simp only [knw_set hxl hne, hj, Bool.or_true]
    · apply List.eq_nil_iff_forall_not_mem.2
      intro j hj
      obtain ⟨h1, h2, h3⟩ := mem_miss.1 hj
      simp only [knw_set hxl hne, Bool.or_eq_false_iff, decide_eq_false_iff_not] at h3
      have : j ∈ missL n r.1 s.2.1 := mem_miss.2 ⟨h1, h2, h3.2⟩
      rw [hx] at this
      simp at this
      exact h3.1 this
  · rw [stepR_more h2]
    exact ⟨h, fun j hj => hj, ⟨Nat.le_refl _, fun e => .inl e⟩, fun e => e, fun _ => rfl, .inl (by simp), fun x hx => by simp [hx], fun x hx => by simpa using hx⟩

/-- .. and a row of steps -/
theorem fold_keeps {n k : Nat} (k1 : 1 ≤ k) : ∀ {rows : List LRow} {s : PSt}, KOk n k s.2.1 → KOk n k (rows.foldl (stepR n k) s).2.1 ∧ (∀ j, knw s.2.1 j = true → knw (rows.foldl (stepR n k) s).2.1 j = true) ∧ (cntU (rows.foldl (stepR n k) s).2.1 ≤ cntU s.2.1 ∧ ((rows.foldl (stepR n k) s).2.2 = true → s.2.2 = true ∨ cntU (rows.foldl (stepR n k) s).2.1 < cntU s.2.1)) ∧ (s.2.2 = true → (rows.foldl (stepR n k) s).2.2 = true) ∧ ((rows.foldl (stepR n k) s).2.2 = false → (rows.foldl (stepR n k) s).2.1 = s.2.1) ∧
    (∀ r, r ∈ rows ∨ r ∈ s.1 → r ∈ (rows.foldl (stepR n k) s).1 ∨ missL n r.1 (rows.foldl (stepR n k) s).2.1 = []) ∧ (∀ x ∈ (rows.foldl (stepR n k) s).1, x ∈ s.1 ∨ x ∈ rows) := by
  intro rows
  induction rows with
  | nil => intro s h; exact ⟨h, fun j hj => hj, ⟨Nat.le_refl _, fun e => .inl e⟩, fun e => e, fun _ => rfl, fun r hr => by simp at hr; exact .inl hr, fun x hx => .inl hx⟩
  | cons r rows ih =>
    intro s h
    obtain ⟨a1, a2, ⟨a3, a3'⟩, a4, a5, a6, a7, a8⟩ := stepR_keeps k1 (r := r) h
    obtain ⟨b1, b2, ⟨b3, b3'⟩, b4, b5, b6, b7⟩ := ih a1
    simp only [List.foldl_cons]
    refine ⟨b1, fun j hj => b2 j (a2 j hj), ⟨by omega, fun e => ?_⟩, fun e => b4 (a4 e), fun e => ?_, fun x hx => ?_, fun x hx => ?_⟩
    · rcases b3' e with e1 | e1
      · rcases a3' e1 with e2 | e2
        · exact .inl e2
        · exact .inr (by omega)
      · exact .inr (by omega)
    · have e1 : (stepR n k s r).2.2 = false := by
        cases hh : (stepR n k s r).2.2
        · rfl
        · rw [b4 hh] at e; exact e
      rw [b5 e, a5 e1]
    · have hmono : ∀ y : LRow, missL n y.1 (stepR n k s r).2.1 = [] → missL n y.1 (rows.foldl (stepR n k) (stepR n k s r)).2.1 = [] := fun y hy => by
        apply List.eq_nil_iff_forall_not_mem.2
        intro j hj
        obtain ⟨h1, h2, h3⟩ := mem_miss.1 hj
        have h4 : ¬ j ∈ missL n y.1 (stepR n k s r).2.1 := by rw [hy]; simp
        have h5 : knw (stepR n k s r).2.1 j = true := by
          cases hh : knw (stepR n k s r).2.1 j
          · exact absurd (mem_miss.2 ⟨h1, h2, hh⟩) h4
          · rfl
        rw [b2 j h5] at h3
        cases h3
      rcases hx with hx | hx
      · rcases List.mem_cons.1 hx with rfl | hx
        · rcases a6 with h6 | h6
          · exact b6 x (.inr h6)
          · exact .inr (hmono x h6)
        · exact b6 x (.inl hx)
      · exact b6 x (.inr (a7 x hx))
    · rcases b7 x hx with h1 | h1
      · rcases a8 x h1 with h2 | rfl
        · exact .inl h2
        · exact .inr (by simp)
      · exact .inr (by simp [h1])

theorem round_keeps {n k : Nat} (k1 : 1 ≤ k) {rows : List LRow} {K : Kn} (h : KOk n k K) : KOk n k (roundP n k rows K).2.1 ∧ (∀ j, knw K j = true → knw (roundP n k rows K).2.1 j = true) ∧ ((roundP n k rows K).2.2 = true → cntU (roundP n k rows K).2.1 < cntU K) ∧ ((roundP n k rows K).2.2 = false → (roundP n k rows K).2.1 = K) ∧ (∀ r ∈ rows, r ∈ (roundP n k rows K).1 ∨ missL n r.1 (roundP n k rows K).2.1 = []) ∧ (∀ x ∈ (roundP n k rows K).1, x ∈ rows) := by
  obtain ⟨b1, b2, ⟨b3, b3'⟩, b4, b5, b6, b7⟩ := fold_keeps k1 (rows := rows) (s := ([], K, false)) h
  exact ⟨b1, b2, fun e => by rcases b3' e with h | h; cases h; exact h, b5, fun r hr => b6 r (.inl hr), fun x hx => by rcases b7 x hx with h | h; cases h; exact h⟩

/-- a round that finds nothing: no row has just one that isn't known -/
theorem round_still {n k : Nat} (k1 : 1 ≤ k) : ∀ {rows : List LRow} {s : PSt}, KOk n k s.2.1 → (rows.foldl (stepR n k) s).2.2 = false → ∀ r ∈ rows, (missL n r.1 s.2.1).length ≠ 1 := by
  intro rows
  induction rows with
  | nil => intro s _ _ r hr; cases hr
  | cons r rows ih =>
    intro s h hs x hx
    simp only [List.foldl_cons] at hs
    obtain ⟨a1, a2, ⟨a3, a3'⟩, a4, a5, a6, a7, a8⟩ := stepR_keeps k1 (r := r) h
    have e1 : (stepR n k s r).2.2 = false := by
      cases hh : (stepR n k s r).2.2
      · rfl
      · rw [(fold_keeps k1 a1).2.2.2.1 hh] at hs; exact hs
    have e2 := a5 e1
    rcases List.mem_cons.1 hx with rfl | hx
    · intro hl
      rcases miss_cases n x.1 s.2.1 with h0 | ⟨y, hy⟩ | h2
      · omega
      · rw [stepR_one hy] at e1
        cases e1
      · omega
    · have := ih a1 hs x hx
      rwa [e2] at this

/-- all rounds -/
def peelN (n k : Nat) : Nat → List LRow → Kn → Kn
  | 0, _, K => K
  | f + 1, rows, K => if (roundP n k rows K).2.2 = true then peelN n k f (roundP n k rows K).1 (roundP n k rows K).2.1 else (roundP n k rows K).2.1

def peelL (n k : Nat) (rows : List LRow) (K : Kn) : Kn := peelN n k (cntU K + 1) rows K

theorem peelN_same {n k : Nat} (k1 : 1 ≤ k) : ∀ (f f' : Nat) (rows : List LRow) (K : Kn), KOk n k K → cntU K < f → cntU K < f' → peelN n k f rows K = peelN n k f' rows K := by
  intro f
  induction f with
  | zero => intro f' rows K _ h; omega
  | succ f ih =>
    intro f' rows K hK hf hf'
    obtain ⟨f2, rfl⟩ : ∃ f2, f' = f2 + 1 := ⟨f' - 1, by omega⟩
    obtain ⟨b1, b2, b3, b4, b5, b6⟩ := round_keeps k1 (rows := rows) hK
    simp only [peelN]
    by_cases hm : (roundP n k rows K).2.2 = true
    · have h1 := b3 hm
      rw [if_pos hm, if_pos hm]
      exact ih f2 _ _ b1 (by omega) (by omega)
    · rw [if_neg hm, if_neg hm]

theorem peelL_step {n k : Nat} (k1 : 1 ≤ k) (rows : List LRow) (K : Kn) (hK : KOk n k K) : peelL n k rows K = if (roundP n k rows K).2.2 = true then peelL n k (roundP n k rows K).1 (roundP n k rows K).2.1 else (roundP n k rows K).2.1 := by
  obtain ⟨b1, b2, b3, b4, b5, b6⟩ := round_keeps k1 (rows := rows) hK
  conv => lhs; unfold peelL
  simp only [peelN]
  by_cases hm : (roundP n k rows K).2.2 = true
  · have h1 := b3 hm
    rw [if_pos hm, if_pos hm]
    exact peelN_same k1 _ _ _ _ b1 (by omega) (by omega)
  · rw [if_neg hm, if_neg hm]

/-- what holds of the first state and stays by rounds holds at the end, where a round finds nothing -/
theorem peelL_ind {n k : Nat} (k1 : 1 ≤ k) (I : List LRow → Kn → Prop) (step : ∀ rows K, KOk n k K → I rows K → I (roundP n k rows K).1 (roundP n k rows K).2.1) : ∀ (c : Nat) (rows : List LRow) (K : Kn), cntU K ≤ c → KOk n k K → I rows K →
    ∃ rows', KOk n k (peelL n k rows K) ∧ I rows' (peelL n k rows K) ∧ (roundP n k rows' (peelL n k rows K)).2.2 = false := by
  intro c
  induction c with
  | zero =>
    intro rows K hc hK hI
    obtain ⟨b1, b2, b3, b4, b5, b6⟩ := round_keeps k1 (rows := rows) hK
    have hm : (roundP n k rows K).2.2 = false := by
      cases hh : (roundP n k rows K).2.2
      · rfl
      · have := b3 hh; omega
    rw [peelL_step k1 rows K hK, if_neg (by simp [hm]), b4 hm]
    exact ⟨rows, hK, hI, hm⟩
  | succ c ih =>
    intro rows K hc hK hI
    obtain ⟨b1, b2, b3, b4, b5, b6⟩ := round_keeps k1 (rows := rows) hK
    cases hm : (roundP n k rows K).2.2
    · rw [peelL_step k1 rows K hK, if_neg (by simp [hm]), b4 hm]
      exact ⟨rows, hK, hI, hm⟩
    · rw [peelL_step k1 rows K hK, if_pos hm]
      have := b3 hm
      exact ih _ _ (by omega) b1 (step rows K hK hI)

/-- at the end no row has just one block that isn't known -/
theorem peel_closed {n k : Nat} (k1 : 1 ≤ k) (rows : List LRow) (K : Kn) (hK : KOk n k K) : ∀ r ∈ rows, (missL n r.1 (peelL n k rows K)).length ≠ 1 := by
  obtain ⟨rows', h1, h2, h3⟩ := peelL_ind k1 (fun l K => ∀ r ∈ rows, r ∈ l ∨ missL n r.1 K = []) (fun l K hK hI r hr => by
    obtain ⟨b1, b2, b3, b4, b5, b6⟩ := round_keeps k1 (rows := l) hK
    rcases hI r hr with h | h
    · exact b5 r h
    · refine .inr (List.eq_nil_iff_forall_not_mem.2 fun j hj => ?_)
      obtain ⟨h1, h2, h3⟩ := mem_miss.1 hj
      have h4 : ¬ j ∈ missL n r.1 K := by rw [h]; simp
      have h5 : knw K j = true := by
        cases hh : knw K j
        · exact absurd (mem_miss.2 ⟨h1, h2, hh⟩) h4
        · rfl
      rw [b2 j h5] at h3
      cases h3) (cntU K) rows K (Nat.le_refl _) hK (fun r hr => .inl hr)
  intro r hr
  rcases h2 r hr with h | h
  · exact round_still k1 (s := ([], _, false)) h1 h3 r h
  · rw [h]; simp

/-- a property of what is known that each finding keeps holds at the end -/
theorem peel_all {n k : Nat} (k1 : 1 ≤ k) (J : Kn → Prop) (rows : List LRow) (K : Kn) (hK : KOk n k K) (h0 : J K) (one : ∀ K r x, KOk n k K → J K → r ∈ rows → missL n r.1 K = [x] → J (K.set x (restL n k r K))) : J (peelL n k rows K) := by
  have fold : ∀ (l : List LRow) (s : PSt), (∀ r ∈ l, r ∈ rows) → KOk n k s.2.1 → J s.2.1 → J (l.foldl (stepR n k) s).2.1 := by
    intro l
    induction l with
    | nil => intro s _ _ h; exact h
    | cons r l ih =>
      intro s hl hs hj
      simp only [List.foldl_cons]
      refine ih _ (fun x hx => hl x (List.mem_cons_of_mem _ hx)) (stepR_keeps k1 hs).1 ?_
      rcases miss_cases n r.1 s.2.1 with h0 | ⟨x, hx⟩ | h2
      · rw [stepR_none h0]; exact hj
      · rw [stepR_one hx]; exact one _ r x hs hj (hl r List.mem_cons_self) hx
      · rw [stepR_more h2]; exact hj
  obtain ⟨_, _, h, _⟩ := peelL_ind k1 (fun l K => (∀ r ∈ l, r ∈ rows) ∧ J K) (fun l K hK hI => ⟨fun r hr => hI.1 r ((round_keeps k1 hK).2.2.2.2.2 r hr), fold l ([], K, false) hI.1 hK hI.2⟩) (cntU K) rows K (Nat.le_refl _) hK ⟨fun r hr => hr, h0⟩
  exact h.2

/-- of more rows no less is known -/
theorem peel_more {n k : Nat} (k1 : 1 ≤ k) {rows rows' : List LRow} {K : Kn} (hK : KOk n k K) (hs : ∀ r ∈ rows, r ∈ rows') (h0 : ∀ j, knw K j = false) (j : Nat) (hj : knw (peelL n k rows K) j = true) : knw (peelL n k rows' K) j = true := by
  have hc := peel_closed k1 rows' K hK
  refine peel_all k1 (fun M => ∀ j, knw M j = true → knw (peelL n k rows' K) j = true) rows K hK (fun j h => by rw [h0 j] at h; cases h) (fun M r x hM hJ hr hx i hi => ?_) j hj
  have hm : x ∈ missL n r.1 M := by rw [hx]; simp
  obtain ⟨hxn, hxr, hxk⟩ := mem_miss.1 hm
  rw [knw_set (by rw [hM.1]; exact hxn) (restL_ne k1 r M)] at hi
  simp only [Bool.or_eq_true, decide_eq_true_eq] at hi
  rcases hi with rfl | hi
  · cases hh : knw (peelL n k rows' K) i
    · exfalso
      refine hc r (hs r hr) ?_
      have e : missL n r.1 (peelL n k rows' K) = missL n r.1 M := by
        unfold missL
        refine List.filter_congr fun t ht => ?_
        have htn : t < n := List.mem_range.1 ht
        by_cases e : t = i
        · subst e; rw [hh, hxk]
        · by_cases hr2 : r.1.getD t false = true
          · have hkt : knw M t = true := by
              cases h4 : knw M t
              · have : t ∈ missL n r.1 M := mem_miss.2 ⟨htn, hr2, h4⟩
                rw [hx] at this
                simp at this
                exact absurd this e
              · rfl
            rw [hkt, hJ t hkt]
          · have : r.1.getD t false = false := by simpa using hr2
            rw [this]; simp
      rw [e, hx]
      rfl
    · rfl
  · exact hJ i hi

/-- of true rows what is known is the cargo's -/
theorem peel_true {n k : Nat} (k1 : 1 ≤ k) {c : List UInt8} {rows : List LRow} {K : Kn} (hK : KOk n k K) (hT : ∀ r ∈ rows, Tr n (blkAt k c) (LRow.v r)) (h0 : ∀ j, knw K j = false) (j : Nat) : (peelL n k rows K).getD j [] = [] ∨ (peelL n k rows K).getD j [] = piece k j c := by
  refine peel_all k1 (fun M => ∀ j, M.getD j [] = [] ∨ M.getD j [] = piece k j c) rows K hK (fun j => .inl ?_) (fun M r x hM hJ hr hx j => ?_) j
  · have := h0 j
    simpa [knw] using this
  · have hm : x ∈ missL n r.1 M := by rw [hx]; simp
    obtain ⟨hxn, hxr, hxk⟩ := mem_miss.1 hm
    by_cases e : j = x
    · subst e
      refine .inr ?_
      rw [List.getD_eq_getElem?_getD, List.getElem?_set_self (by rw [hM.1]; exact hxn)]
      refine piece_of (restL_length n k r M) fun t => ?_
      by_cases ht : t < k
      · have e1 : (restL n k r M).getD t 0 = r.2.getD t 0 ^^^ sumAt (fun j t => (M.getD j []).getD t 0) (fun j => r.1.getD j false && knw M j) n t := by simp [restL, List.getD_eq_getElem?_getD, ht]
        show (restL n k r M).getD t 0 = _
        rw [e1]
        have e2 : r.2.getD t 0 = sumAt (blkAt k c) (fun j => r.1.getD j false) n t := hT r hr t
        have e3 : sumAt (fun j t => (M.getD j []).getD t 0) (fun j => r.1.getD j false && knw M j) n t = sumAt (blkAt k c) (fun j => r.1.getD j false && knw M j) n t := by
          have gen : ∀ m, sumAt (fun j t => (M.getD j []).getD t 0) (fun j => r.1.getD j false && knw M j) m t = sumAt (blkAt k c) (fun j => r.1.getD j false && knw M j) m t := by
            intro m
            induction m with
            | zero => rfl
            | succ m ih =>
              simp only [sumAt, ih]
              by_cases hb : (r.1.getD m false && knw M m) = true
              · rw [if_pos hb, if_pos hb]
                have hk2 : knw M m = true := by simp at hb; exact hb.2
                rcases hJ m with h | h
                · unfold knw at hk2; rw [h] at hk2; simp at hk2
                · rw [h]; rfl
              · rw [if_neg hb, if_neg hb]
          exact gen n
        have e4 : sumAt (blkAt k c) (fun j => r.1.getD j false) n t = sumAt (blkAt k c) (fun j => r.1.getD j false && knw M j) n t ^^^ (if j < n then blkAt k c j t else 0) := by
          have hv := sumAt_add (blkAt k c) ⟨fun j => r.1.getD j false && knw M j, fun _ => 0⟩ ⟨fun i => decide (i = j), fun _ => 0⟩ n t
          rw [sumAt_one (k := j) (h := fun i => decide (i = j)) (fun i => rfl)] at hv
          rw [← hv]
          refine sumAt_mask fun i hi => ?_
          show r.1.getD i false = ((r.1.getD i false && knw M i) != decide (i = j))
          by_cases e5 : i = j
          · subst e5; simp only [hxr, hxk]; simp
          · by_cases hr2 : r.1.getD i false = true
            · have hkt : knw M i = true := by
                cases h4 : knw M i
                · have : i ∈ missL n r.1 M := mem_miss.2 ⟨hi, hr2, h4⟩
                  rw [hx] at this
                  simp at this
                  exact absurd this e5
                · rfl
              simp [hr2, hkt, e5]
            · have : r.1.getD i false = false := by simpa using hr2
              rw [this]; simp [e5]
        rw [e2, e3, e4, if_pos hxn, UInt8.xor_comm (sumAt _ _ n t) (blkAt k c j t), UInt8.xor_assoc, UInt8.xor_self, UInt8.xor_zero]
      · rw [List.getD_eq_getElem?_getD, List.getElem?_eq_none (by show (restL n k r M).length ≤ t; rw [restL_length]; omega)]
        show (0 : UInt8) = (piece k j c).getD t 0
        rw [piece_getD, if_neg ht]
    · have : (M.set x (restL n k r M)).getD j [] = M.getD j [] := by simp only [List.getD_eq_getElem?_getD, List.getElem?_set_ne (Ne.symm e)]
      rw [this]
      exact hJ j

/-- sums of known units -/
theorem span_units {S : List V} : ∀ (l : List Nat), l.Nodup → (∀ j ∈ l, ∃ v, Span S v ∧ ∀ i, v.has i = decide (i = j)) → ∃ v, Span S v ∧ ∀ i, v.has i = decide (i ∈ l) := by
  intro l
  induction l with
  | nil => intro _ _; exact ⟨V.o, .o, fun i => by simp [V.o]⟩
  | cons a l ih =>
    intro hd h
    have hd' := List.nodup_cons.1 hd
    obtain ⟨v, hv, hvi⟩ := ih hd'.2 fun j hj => h j (List.mem_cons_of_mem _ hj)
    obtain ⟨u, hu, hui⟩ := h a List.mem_cons_self
    refine ⟨v.add u, hv.add hu, fun i => ?_⟩
    show (v.has i != u.has i) = _
    rw [hvi, hui]
    by_cases e : i = a
    · subst e; simp [hd'.1]
    · simp [e]

/-- what is known one by one follows from the rows -/
theorem peel_span {n k : Nat} (k1 : 1 ≤ k) {rows : List LRow} {K : Kn} (hK : KOk n k K) (hf : ∀ r ∈ rows, Fits n k r) (h0 : ∀ j, knw K j = false) (j : Nat) (hj : knw (peelL n k rows K) j = true) : ∃ v, Span (rows.map LRow.v) v ∧ ∀ i, v.has i = decide (i = j) := by
  refine peel_all k1 (fun M => ∀ j, knw M j = true → ∃ v, Span (rows.map LRow.v) v ∧ ∀ i, v.has i = decide (i = j)) rows K hK (fun j h => by rw [h0 j] at h; cases h) (fun M r x hM hJ hr hx j hj => ?_) j hj
  have hm : x ∈ missL n r.1 M := by rw [hx]; simp
  obtain ⟨hxn, hxr, hxk⟩ := mem_miss.1 hm
  rw [knw_set (by rw [hM.1]; exact hxn) (restL_ne k1 r M)] at hj
  simp only [Bool.or_eq_true, decide_eq_true_eq] at hj
  rcases hj with rfl | hj
  · obtain ⟨v, hv, hvi⟩ := span_units (S := rows.map LRow.v) (useL n r.1 M) ((List.nodup_range (n := n)).filter _) fun i hi => hJ i (mem_use.1 hi).2.2
    refine ⟨(LRow.v r).add v, (Span.mem (List.mem_map_of_mem hr)).add hv, fun i => ?_⟩
    show (r.1.getD i false != v.has i) = _
    rw [hvi]
    by_cases hr2 : r.1.getD i false = true
    · have hin : i < n := by
        by_cases h : i < n
        · exact h
        · rw [List.getD_eq_getElem?_getD, List.getElem?_eq_none (by rw [(hf r hr).1]; omega)] at hr2
          cases hr2
      by_cases e5 : i = j
      · subst e5
        have : ¬ i ∈ useL n r.1 M := fun h => by rw [(mem_use.1 h).2.2] at hxk; cases hxk
        rw [hr2]
        simp [this]
      · have hkt : knw M i = true := by
          cases h4 : knw M i
          · have : i ∈ missL n r.1 M := mem_miss.2 ⟨hin, hr2, h4⟩
            rw [hx] at this
            simp at this
            exact absurd this e5
          · rfl
        have : i ∈ useL n r.1 M := mem_use.2 ⟨hin, hr2, hkt⟩
        rw [hr2]
        simp [this, e5]
    · have h1 : r.1.getD i false = false := by simpa using hr2
      have h2 : ¬ i ∈ useL n r.1 M := fun h => hr2 (mem_use.1 h).2.1
      have h3 : i ≠ j := by intro e; subst e; exact hr2 hxr
      rw [h1]
      simp [h2, h3]
  · exact hJ j hj

/-- where all is known one by one, Decode knows the cargo -/
theorem peel_decode {B K' : Int} {n k nb : Nat} (g : Good B K' n k nb) {c : List UInt8} (hc : c.length = n) {ids : List Nat} (hi : ∀ i ∈ ids, i ≤ 9999) (hl : ids.length ≤ 60) {K : Kn} (hK : KOk nb k K) (h0 : ∀ j, knw K j = false) (hall : ∀ j, j < nb → knw (peelL nb k (ids.map (symRow nb k c)) K) j = true) :
    decCode B K' (ids.map (symOf nb k c)) = 0 ∧ decRes B K' (ids.map (symOf nb k c)) = c := by
  obtain ⟨P, hP, hR, hS, hT, hA⟩ := sym_rows g c ids hi
  have hfull := hR.sys.full hR.of fun j hj => by
    obtain ⟨v, hv, hvi⟩ := peel_span g.k1 hK (fun r hr => by obtain ⟨i, _, rfl⟩ := List.mem_map.1 hr; exact symRow_fits nb k c i) h0 j (hall j hj)
    exact ⟨v, (hS v).2 hv, by rw [hvi]; simp, fun i hi => by rw [hvi]; simp; omega⟩
  rcases dec_true g hc hi hl hP with ⟨h, _⟩ | ⟨_, h1, h2⟩
  · simp at hfull; omega
  · exact ⟨h1, h2⟩

end Go.Proofs.YtkiejflgphjfjacDoor

/-
  slices.Grow of nothing and slices.Concat of blocks: the contract of each.
-/
namespace Go.Proofs.YtkiejflgphjfjacDoor
open Go.RowKit
set_option linter.unusedVariables false
set_option linter.unusedSimpArgs false

theorem zeroCells_size (z : Value) (n : Nat) : (Builtin.zeroCells #[z] n).size = n := by simp [Builtin.zeroCells]

set_option maxRecDepth 8000 in
set_option maxHeartbeats 1000000 in
theorem grow_nil (s : Nat) (w : World) (hs : s ≤ 1048576) :
    Calls Tryd.prog 85 #[.slice none 0 0, .int .i64 s] w fun e w' => ∃ v, e = .returned v ∧ w'.ownsRow w.heap.size 5 1 v 0 [] ∧ Below w.heap.size w w' := by
  obtain ⟨i0, hi, hz0, hz1, hz2⟩ := info_parts infoU8
  by_cases h0 : s = 0
  · subst h0
    go_enter Tryd.func85, Tryd.ntmps85
    go_wp2
    go_ret
    exact ⟨_, rfl, World.ownsRow_nil _ _ _ _, Below.refl _ _⟩
  · have h1 : 0 < s := by omega
    have h2 : (0 : Int) < (s : Int) := by omega
    clear h0
    have hrz : ∀ ty, (Builtin.append_ #[36, 3] ty #[.slice none 0 0, .int .i64 s]).run Tryd.prog w = .ok (.slice (some ⟨w.heap.size, 0, none⟩) s (grownCap w s 0 5)) (w.drew.alloc (.cells (Builtin.zeroCells #[.int .u8 0] s ++ Builtin.zeroCells #[.int .u8 0] (grownCap w s 0 5 - s)) 5)) := fun ty =>
      Lib.run_append_nil_zeros w 36 3 ty 5 i0 (.int .u8 0) .i64 .i64 Tryd.underlying36 Tryd.underlying3 hi hz0 s h1 (by omega) (by omega) (by rw [hz2]; omega)
    have hGn : s ≤ grownCap w s 0 5 := grownCap_ge w _ _ _
    have hG63 := grownCap_le_maxLen w s 0 5 (by unfold maxLen; omega)
    have HR : Hid ((w.drew.alloc (.cells (Builtin.zeroCells #[.int .u8 0] s ++ Builtin.zeroCells #[.int .u8 0] (grownCap w s 0 5 - s)) 5)).ownsRow w.heap.size 5 1 (.slice (some ⟨w.heap.size, 0, none⟩) 0 (grownCap w s 0 5)) 0 []) :=
      ⟨rfl, .inr ⟨w.heap.size, _, _, rfl, Nat.le_refl _, (heap_alloc_eq w.drew _ _).trans (if_pos rfl), Nat.zero_le _, hG63, by simp [zeroCells_size]; omega, rfl⟩⟩
    generalize grownCap w s 0 5 = G at *
    unfold maxLen at hG63
    have hG : (G : Int) ≤ 9223372036854775807 := by omega
    clear hG63
    go_enter Tryd.func85, Tryd.ntmps85
    go_wp2_with (at_builtin; refine Lib.wpList_append_run _ rfl _ _ _ _ rfl _ _ rfl rfl _ _ (hrz _) ?_)
    all_goals
      go_ret
      exact ⟨_, rfl, HR.out, (Below.refl _ _).drew.alloc (Nat.le_refl _) _⟩

theorem storeCells_nil {P : Program} (w : World) (a : Addr) (i : Nat) : (storeCells a [] i).run P w = .ok () w := rfl

/-- append of a slice that has nothing -/
theorem run_append_nothing {P : Program} (w : World) (t ty e : TypeId) (i : TypeInfo) (ht : P.underlying t = some (.slice e)) (hi : P.info? e = some i) (base : Option Addr) (n cap c : Nat) (h : n ≤ cap) :
    (Builtin.append_ #[t, t] ty #[.slice base n cap, .slice none 0 c]).run P w = .ok (.slice base n cap) w := by
  cases base with
  | none => simp [Builtin.append_, run_underlying ht, sizeOf, typeInfo, hi, Builtin.lenOf, Builtin.firstCells, h]
  | some a => simp [Builtin.append_, run_underlying ht, sizeOf, typeInfo, hi, Builtin.lenOf, Builtin.firstCells, h, storeCells_nil]

/-- how many bytes the first m have -/
def totTo (bl : List Blk) (m : Nat) : Nat := (((bl.map Blk.l).take m).flatten).length

theorem totTo_succ {bl : List Blk} {m : Nat} (h : m < bl.length) : totTo bl (m + 1) = totTo bl m + bl[m].l.length := by
  unfold totTo
  rw [List.take_succ_eq_append_getElem (by simpa using h)]
  simp

theorem totTo_le (bl : List Blk) (m : Nat) : totTo bl m ≤ ((bl.map Blk.l).flatten).length := by
  unfold totTo
  have h := congrArg (fun l => l.flatten.length) (List.take_append_drop m (bl.map Blk.l))
  simp only [List.flatten_append, List.length_append] at h
  omega

theorem concat_step {w wr w1 : World} {v v' : Value} {bl : List Blk} {m : Nat} (hlt : m < bl.length) (hb : Below w.heap.size w wr) (ho : wr.ownsRow w.heap.size 5 1 v (totTo bl m) (bs ((bl.map Blk.l).take m).flatten))
    (ho' : w1.ownsRow w.heap.size 5 1 v' (totTo bl m + bl[m].l.length) (bs ((bl.map Blk.l).take m).flatten ++ bs bl[m].l)) (hg : wr.grownBy w1 v.ownBlock) :
    w1.ownsRow w.heap.size 5 1 v' (totTo bl (m + 1)) (bs ((bl.map Blk.l).take (m + 1)).flatten) ∧ Below w.heap.size w w1 := by
  refine ⟨?_, hb.grown hg hb.size fun g hg' => (ho.lt g hg').1⟩
  rw [totTo_succ hlt, List.take_succ_eq_append_getElem (by simpa using hlt)]
  simpa [bs] using ho'

theorem lies_none {w : World} {l : List UInt8} (h : Lies w none (bs l)) : l = [] := by
  cases l with
  | nil => rfl
  | cons x r =>
    obtain ⟨_, _, e, _⟩ := h 0 _ (by simp [bs]; rfl)
    simp at e

theorem lies_add {w : World} {ad : Addr} {l : List UInt8} (h : Lies w (some ad) (bs l)) : ∀ j u, (bs l)[j]? = some u → w.cell? (ad.add j) = some u := by
  intro j u hu
  obtain ⟨b, o, e, hc⟩ := h j u hu
  simp at e
  subst e
  simpa [Addr.add_lit] using hc

theorem own_none {w : World} {B : Nat} {e : TypeId} {n q : Nat} {xs : List Value} (h : w.ownsRow B e 1 (.slice none n q) n xs) : q = 0 := by
  rcases h.2 with ⟨e1, h0⟩ | ⟨g, cap, cur, e1, hb, hg, hnc, hcm, hcs, htake⟩
  · simp at e1
    exact e1.2
  · simp at e1

set_option maxRecDepth 8000 in
set_option maxHeartbeats 1000000 in
theorem concat_any (a : Option Addr) (cap : Nat) (bl : List Blk) (w : World) (hn : bl.length ≤ maxLen) (htot : ((bl.map Blk.l).flatten).length ≤ 1048576) (ha : Lies w a (bl.map Blk.val)) (hall : AllIn w bl) :
    Calls Tryd.prog 69 #[.slice a bl.length cap] w fun e w' => ∃ v, e = .returned v ∧ w'.ownsRow w.heap.size 5 1 v ((bl.map Blk.l).flatten).length (bs (bl.map Blk.l).flatten) ∧ Below w.heap.size w w' := by
  obtain ⟨i0, hi, hz0, hz1, hz2⟩ := info_parts infoU8
  have HT : Hid (((bl.map Blk.l).flatten).length ≤ 1048576) := htot
  unfold maxLen at hn
  clear htot
  go_enter Tryd.func69, Tryd.ntmps69
  go_wp2
  go_loop [3, 11] (fun c i => ∃ m : Nat, m ≤ bl.length ∧ i = .int .i64 m ∧ c = .int .i64 (totTo bl m)) (fun _ i => bl.length - (intOf i).toNat)
  case atStart => exact ⟨0, Nat.zero_le _, rfl, rfl⟩
  case round =>
    obtain ⟨m, hm, rfl, rfl⟩ := hrel
    by_cases hlt : m < bl.length
    · obtain ⟨b1, o1, rfl⟩ := ha.some (k := m) (by simpa using hlt)
      have h1 : w.cell? ⟨b1, o1 + m, none⟩ = some (.slice bl[m].a bl[m].l.length bl[m].cap) := ha.at (by simp [hlt, Blk.val])
      have hs := totTo_succ hlt
      have hle := totTo_le bl (m + 1)
      have := HT.out
      have hb1 : totTo bl m ≤ 1048576 := by omega
      have hb2 : bl[m].l.length ≤ 1048576 := by omega
      have HS : Hid (totTo bl (m + 1) = totTo bl m + bl[m].l.length) := hs
      clear hs hle this
      go_wp2
      go_round
      case rel => exact ⟨m + 1, by omega, by go_num, congrArg (Value.int .i64) (by rw [HS.out]; simp)⟩
      case measure => simp [intOf]; omega
    · have HM : Hid (m = bl.length) := by have : m = bl.length := by omega
                                          exact this
      have hle := totTo_le bl m
      have := HT.out
      have hb1 : totTo bl m ≤ 1048576 := by omega
      clear hle this
      go_wp2_with fail
      refine (grow_nil _ _ hb1).mono ?_
      rintro e w1 ⟨v1, rfl, ho1, hb⟩
      clear hb1
      go_wp2
      go_loopw [6, 27] (fun v i wr => ∃ m : Nat, m ≤ bl.length ∧ i = .int .i64 m ∧ wr.ownsRow w.heap.size 5 1 v (totTo bl m) (bs ((bl.map Blk.l).take m).flatten) ∧ Below w.heap.size w wr) (fun _ i _ => bl.length - (intOf i).toNat)
      case atStart => exact ⟨0, Nat.zero_le _, rfl, ho1, hb⟩
      case round =>
        clear ho1 hb
        obtain ⟨m, hm, rfl, hown, hbw⟩ := hrel
        by_cases hlt : m < bl.length
        · obtain ⟨b1, o1, rfl⟩ := ha.some (k := m) (by simpa using hlt)
          have h1 : wr.cell? ⟨b1, o1 + m, none⟩ = some (.slice bl[m].a bl[m].l.length bl[m].cap) := (ha.below hbw (Nat.le_refl _)).at (by simp [hlt, Blk.val])
          have hla := (hall bl[m] (by simp)).1.below hbw (Nat.le_refl _)
          have hsz := hbw.size
          have hs := totTo_succ hlt
          have hle := totTo_le bl (m + 1)
          have := HT.out
          have hb1 : totTo bl m + bl[m].l.length ≤ 1048576 := by omega
          have HS : Hid (totTo bl (m + 1) = totTo bl m + bl[m].l.length) := hs
          clear hs hle this
          cases had : bl[m].a with
          | none =>
            rw [had] at h1 hla
            have HE : Hid (bl[m].l = []) := lies_none hla
            have h0 : bl[m].l.length = 0 := by rw [HE.out]; rfl
            rw [h0] at h1
            obtain ⟨p6, q6, rfl, hq6⟩ := own_slice hown
            have hq : p6 = none → q6 = 0 := fun e => by subst e; exact own_none hown
            have R : Hid (wr.ownsRow w.heap.size 5 1 (.slice p6 (totTo bl m) q6) (totTo bl (m + 1)) (bs ((bl.map Blk.l).take (m + 1)).flatten)) := by
              show wr.ownsRow w.heap.size 5 1 (.slice p6 (totTo bl m) q6) (totTo bl (m + 1)) (bs ((bl.map Blk.l).take (m + 1)).flatten)
              rw [HS.out, List.take_succ_eq_append_getElem (by simpa using hlt)]
              simpa [h0, HE.out] using hown
            clear had hla h0 hown hb1
            go_wp2_with (first | (at_builtin; refine Lib.wpList_append_run _ rfl _ _ _ _ rfl _ _ rfl rfl _ _ (run_append_nothing _ _ _ 5 i0 Tryd.underlying36 hi _ _ _ _ hq6) ?_) | go_in)
            go_roundw
            case rel => exact ⟨m + 1, by omega, by go_num, R.out, hbw⟩
            case measure => simp [intOf]; omega
          | some ad =>
            rw [had] at h1 hla
            clear had
            go_wp2_with (first | (at_builtin; refine wpList_append_own _ rfl _ _ 36 rfl w.heap.size 5 i0 (.int .u8 0) 1 1 Tryd.underlying36 hi hz0 hz1 hz2 rfl (by decide) _ _ _ rfl hown ad bl[m].l.length bl[m].cap (bs bl[m].l) rfl ?c0 ?c1 ?c2 ?c3 ?c4 ?c5 ?_) | go_in)
            case c0 => simp [bs_length]
            case c1 => exact lies_add hla
            case c2 =>
              intro u hu
              obtain ⟨x, _, rfl⟩ := List.mem_map.1 hu
              rfl
            case c3 => unfold maxLen; omega
            case c4 => omega
            case c5 => omega
            intro v' w1 hown' hgrow _
            have R := concat_step hlt hbw hown hown' hgrow
            clear hown' hgrow hown hbw h1 hla
            go_wp2
            go_roundw
            case rel => exact ⟨m + 1, by omega, by go_num, R.1, R.2⟩
            case measure => simp [intOf]; omega
        · have HK : Hid (m = bl.length) := by have : m = bl.length := by omega
                                              exact this
          go_wp2
          go_ret
          refine ⟨_, rfl, ?_, hbw⟩
          have hk := HK.out
          subst hk
          unfold totTo at hown
          rwa [List.take_of_length_le (by simp)] at hown

end Go.Proofs.YtkiejflgphjfjacDoor

/-
  pick.next and pick.howMany: the contract of each.
-/
namespace Go.Proofs.YtkiejflgphjfjacDoor
open Go.RowKit
set_option linter.unusedVariables false
set_option linter.unusedSimpArgs false

/-- the variable's cells -/
def limV : List Value := [.int .i64 8192, .int .i64 40960, .int .i64 51882, .int .i64 57344, .int .i64 60621]

/-- the program's limits are laid as its text lays them -/
def Laid (w : World) : Prop := Lies w (some ⟨0, 0, none⟩) limV

theorem Laid.below {w w' : World} (h : Laid w) (hb : Below w.heap.size w w') : Laid w' := Lies.below hb h (Nat.le_refl _)

theorem next_any (x : Nat) (w : World) (hx : x < 65536) :
    Calls Tryd.prog 46 #[.int .i64 x] w fun e w' => e = .returned (.int .i64 (nx x : Nat)) ∧ w = w' := by
  go_enter Tryd.func46, Tryd.ntmps46
  go_wp2
  go_ret
  exact ⟨ret_int (by simp [nx]), rfl⟩

theorem howMany_any (x b : Nat) (w : World) (hx : x < 65536) (hb : b ≤ 24) (hL : Laid w) :
    Calls Tryd.prog 47 #[.int .i64 x, .int .i64 b] w fun e w' => e = .returned (.int .i64 (many b x : Nat)) ∧ w = w' := by
  have c0 := Lies.at hL (k := 0) rfl
  have c1 := Lies.at hL (k := 1) rfl
  have c2 := Lies.at hL (k := 2) rfl
  have c3 := Lies.at hL (k := 3) rfl
  have c4 := Lies.at hL (k := 4) rfl
  have i0 : ∀ W : World, (Instr.index 106 (.agg #[.int .i64 8192, .int .i64 40960, .int .i64 51882, .int .i64 57344, .int .i64 60621]) (.int .i64 0)).run Tryd.prog W = .ok (.int .i64 8192) W := fun _ => by kernel_rfl
  have i1 : ∀ W : World, (Instr.index 106 (.agg #[.int .i64 8192, .int .i64 40960, .int .i64 51882, .int .i64 57344, .int .i64 60621]) (.int .i64 1)).run Tryd.prog W = .ok (.int .i64 40960) W := fun _ => by kernel_rfl
  have i2 : ∀ W : World, (Instr.index 106 (.agg #[.int .i64 8192, .int .i64 40960, .int .i64 51882, .int .i64 57344, .int .i64 60621]) (.int .i64 2)).run Tryd.prog W = .ok (.int .i64 51882) W := fun _ => by kernel_rfl
  have i3 : ∀ W : World, (Instr.index 106 (.agg #[.int .i64 8192, .int .i64 40960, .int .i64 51882, .int .i64 57344, .int .i64 60621]) (.int .i64 3)).run Tryd.prog W = .ok (.int .i64 57344) W := fun _ => by kernel_rfl
  have i4 : ∀ W : World, (Instr.index 106 (.agg #[.int .i64 8192, .int .i64 40960, .int .i64 51882, .int .i64 57344, .int .i64 60621]) (.int .i64 4)).run Tryd.prog W = .ok (.int .i64 60621) W := fun _ => by kernel_rfl
  go_enter Tryd.func47, Tryd.ntmps47
  clear hL
  go_wp2
  clear c0 c1 c2 c3 c4
  go_loopw [8] (fun i wr => ∃ k : Nat, k ≤ 5 ∧ i = .int .i64 k ∧ wr = w ∧ Hid (∀ j, j < k → lim.getD j 0 ≤ x)) (fun i _ => 5 - (intOf i).toNat)
  case atStart => exact ⟨0, Nat.zero_le _, rfl, rfl, fun j hj => by omega⟩
  case round =>
    obtain ⟨k, hk, rfl, rfl, HL⟩ := hrel
    by_cases hlt : k < 5
    · by_cases hx2 : x < lim.getD k 0
      · have HM : Hid (many b x = min (k + 1) b) := many_at hlt HL.out hx2
        have h5 : k = 0 ∨ k = 1 ∨ k = 2 ∨ k = 3 ∨ k = 4 := by omega
        clear hlt hk HL
        obtain ⟨L, hLk⟩ : ∃ L : Int, L = lim.getD k 0 := ⟨_, rfl⟩
        have hx3 : (x : Int) < L := by omega
        have hi : ∀ W : World, (Instr.index 106 (.agg #[.int .i64 8192, .int .i64 40960, .int .i64 51882, .int .i64 57344, .int .i64 60621]) (.int .i64 k)).run Tryd.prog W = .ok (.int .i64 L) W := by
          rcases h5 with rfl | rfl | rfl | rfl | rfl
          · rw [hLk]; exact i0
          · rw [hLk]; exact i1
          · rw [hLk]; exact i2
          · rw [hLk]; exact i3
          · rw [hLk]; exact i4
        have hk5 : (k : Int) < 5 := by omega
        clear i0 i1 i2 i3 i4 hLk hx2 h5 hx
        go_wp2
        all_goals go_ret
        all_goals exact ⟨ret_int (by rw [HM.out]; omega), rfl⟩
      · have HN : Hid (∀ j, j < k + 1 → lim.getD j 0 ≤ x) := fun j hj => by
          by_cases e : j = k
          · subst e; omega
          · exact HL.out j (by omega)
        have h5 : k = 0 ∨ k = 1 ∨ k = 2 ∨ k = 3 ∨ k = 4 := by omega
        clear hlt hk HL
        obtain ⟨L, hLk⟩ : ∃ L : Int, L = lim.getD k 0 := ⟨_, rfl⟩
        have hx3 : L ≤ (x : Int) := by omega
        have hi : ∀ W : World, (Instr.index 106 (.agg #[.int .i64 8192, .int .i64 40960, .int .i64 51882, .int .i64 57344, .int .i64 60621]) (.int .i64 k)).run Tryd.prog W = .ok (.int .i64 L) W := by
          rcases h5 with rfl | rfl | rfl | rfl | rfl
          · rw [hLk]; exact i0
          · rw [hLk]; exact i1
          · rw [hLk]; exact i2
          · rw [hLk]; exact i3
          · rw [hLk]; exact i4
        have hk5 : (k : Int) < 5 := by omega
        clear i0 i1 i2 i3 i4 hLk hx2 hx
        go_wp2
        go_roundw
        case rel => exact ⟨k + 1, by omega, by go_num, trivial, HN⟩
        case measure => simp [intOf]; omega
    · obtain rfl : k = 5 := by omega
      have HM : Hid (many b x = max (b / 2) 1) := many_end HL.out
      clear hlt hk HL
      go_wp2
      all_goals go_ret
      all_goals exact ⟨ret_int (by rw [HM.out]; omega), rfl⟩

end Go.Proofs.YtkiejflgphjfjacDoor
