/-
  Chapter 5, pure: what the program's own steps come to: who has a block, where a row is put, what is known.
-/
import Derived.Test.YtclbmfjincekfabSol5
import Derived.Test.YtclbmfjincekfabSol2
namespace Go.Proofs.Ytclbmfjincekfab
open Go.RowKit
set_option linter.unusedVariables false
set_option linter.unusedSimpArgs false

/-- how many rows have this block -/
def holdL (A : List LRow) (f : Nat) : Nat := A.countP fun r => r.1.getD f false

theorem hold_one {A : List LRow} {i f : Nat} (hi : i < A.length) (hf : A[i].1.getD f false = true) : holdL A f = 1 ↔ ∀ j (hj : j < A.length), j ≠ i → A[j].1.getD f false = false := by
  have hs : A = A.take i ++ A[i] :: A.drop (i + 1) := by rw [List.getElem_cons_drop, List.take_append_drop]
  have hc : holdL A f = (A.take i).countP (fun r => r.1.getD f false) + (A.drop (i + 1)).countP (fun r => r.1.getD f false) + 1 := by
    unfold holdL
    conv => lhs; rw [hs]
    have hp : (fun r : LRow => r.1.getD f false) A[i] = true := hf
    rw [List.countP_append, List.countP_cons_of_pos (p := fun r : LRow => r.1.getD f false) hp]
    omega
  constructor
  · intro h j hj hne
    have h1 : (A.take i).countP (fun r => r.1.getD f false) = 0 := by omega
    have h2 : (A.drop (i + 1)).countP (fun r => r.1.getD f false) = 0 := by omega
    rw [List.countP_eq_zero] at h1 h2
    rcases Nat.lt_or_gt_of_ne hne with hlt | hlt
    · have := h1 A[j] (by
        have e : (A.take i)[j]'(by simp; omega) = A[j] := List.getElem_take
        rw [← e]; exact List.getElem_mem _)
      simpa using this
    · have := h2 A[j] (by
        have e : (A.drop (i + 1))[j - (i + 1)]'(by simp; omega) = A[j] := by rw [List.getElem_drop]; congr 1; omega
        rw [← e]; exact List.getElem_mem _)
      simpa using this
  · intro h
    have h1 : (A.take i).countP (fun r => r.1.getD f false) = 0 := by
      rw [List.countP_eq_zero]
      intro x hx
      obtain ⟨j, hj, rfl⟩ := List.getElem_of_mem hx
      simp at hj
      rw [List.getElem_take]
      have := h j (by omega) (by omega)
      show ¬ A[j].1.getD f false = true
      rw [this]
      simp
    have h2 : (A.drop (i + 1)).countP (fun r => r.1.getD f false) = 0 := by
      rw [List.countP_eq_zero]
      intro x hx
      obtain ⟨j, hj, rfl⟩ := List.getElem_of_mem hx
      simp at hj
      rw [List.getElem_drop]
      have := h (i + 1 + j) (by omega) (by omega)
      show ¬ A[i + 1 + j].1.getD f false = true
      rw [this]
      simp
    omega

/-- the first block of a row stays, where another row is added that is of a later one -/
theorem clrL_first {n k f : Nat} {p s : LRow} (hp : Fits n k p) (hs : Fits n k s) (hf : firstI p.1 = f) (hl : ∃ m, Lead (LRow.v s) m) (hz : ∀ j, Lead (LRow.v s) j → (LRow.v p).has j = false) : firstI (clrL p s).1 = firstI s.1 := by
  obtain ⟨m, hm⟩ := hl
  have hpl : Lead (LRow.v p) f := firstI_lead.1 hf
  have hne : m ≠ f := fun e => by
    have := hz m hm
    rw [e, hpl.1] at this
    cases this
  have h := clr_lead hpl hm (hz m hm) hne
  rw [← clrL_v hp hs hf] at h
  rw [firstI_lead.2 h, firstI_lead.2 hm]

/-- where a row of this first block is put -/
def posL (A : List LRow) (f : Int) : Nat := A.findIdx fun s => decide (f < firstI s.1)

theorem posL_le (A : List LRow) (f : Int) : posL A f ≤ A.length := List.findIdx_le_length

theorem posL_low {A : List LRow} {f : Int} (h : ∀ s ∈ A, firstI s.1 ≠ f) : posL A f = (lowL A f).length := by
  unfold posL lowL
  induction A with
  | nil => rfl
  | cons s A ih =>
    have hs := h s List.mem_cons_self
    rw [List.findIdx_cons, List.takeWhile_cons]
    by_cases e : firstI s.1 < f
    · have e2 : decide (f < firstI s.1) = false := decide_eq_false (by omega)
      simp only [e2, cond_false, decide_eq_true e, if_true, List.length_cons]
      rw [ih fun x hx => h x (List.mem_cons_of_mem _ hx)]
    · have e2 : decide (f < firstI s.1) = true := decide_eq_true (by omega)
      simp [e2, e]

theorem posL_map {A : List LRow} {f : Int} {g : LRow → LRow} (h : ∀ s ∈ A, firstI (g s).1 = firstI s.1) : posL (A.map g) f = posL A f := by
  unfold posL
  induction A with
  | nil => rfl
  | cons s A ih =>
    rw [List.map_cons, List.findIdx_cons, List.findIdx_cons, h s List.mem_cons_self, ih fun x hx => h x (List.mem_cons_of_mem _ hx)]

/-- the new row among the others, by its place -/
theorem insL_pos {A : List LRow} {p : LRow} {f : Int} (h : ∀ s ∈ A, firstI s.1 ≠ f) : insL (lowL A f) (highL A f) p = (A.map (clrL p)).take (posL A f) ++ p :: (A.map (clrL p)).drop (posL A f) := by
  rw [posL_low h]
  have e : A.map (clrL p) = (lowL A f).map (clrL p) ++ (highL A f).map (clrL p) := by rw [← List.map_append, low_high]
  rw [e]
  have l : (lowL A f).length = ((lowL A f).map (clrL p)).length := by simp
  rw [l, List.take_left, List.drop_left]
  rfl

theorem addL_len {A P : List LRow} {r : LRow} (h : addL A r = some P) : P.length = A.length ∧ firstI (redL A r).1 = -1 ∧ P = A ∨ P.length = A.length + 1 ∧ firstI (redL A r).1 ≠ -1 := by
  unfold addL at h
  by_cases h1 : firstI (redL A r).1 = -1
  · rw [if_pos h1] at h
    split at h
    · cases h; exact .inl ⟨rfl, h1, rfl⟩
    · cases h
  · rw [if_neg h1] at h
    cases h
    refine .inr ⟨?_, h1⟩
    rw [insL_length, low_high]

/-- a row that others say already -/
theorem addL_said {n k : Nat} {A : List LRow} {r : LRow} (h : Right n k A) (hr : Fits n k r) (hs : Span (A.map LRow.v) (LRow.v r)) : addL A r = some A := by
  have h0 : LRow.v (redL A r) = V.o := by
    rw [h.redL hr]
    refine h.sys.nought ?_ fun s hs k hk => red_clear h.sys h.of _ s hs k hk
    have := (red_span n (A.map LRow.v) (LRow.v r)).add hs
    rwa [V.add_add] at this
  obtain ⟨a, b⟩ := not_nought h0
  rw [addL, if_pos a, if_pos b]

/-- .. and so when it comes again -/
theorem addL_again {n k : Nat} {A P : List LRow} {r : LRow} (h : Right n k A) (hr : Fits n k r) (ha : addL A r = some P) : addL P r = some P := by
  obtain ⟨h1, h2⟩ := addL_right h hr ha
  refine addL_said h1 hr ((h2 _).2 ?_)
  exact .mem (by simp)

/-- of right rows one alone has this first block -/
theorem Right.lead_one {n k : Nat} {A : List LRow} (h : Right n k A) {r s : LRow} (hr : r ∈ A) (hs : s ∈ A) {j : Nat} (h1 : firstI r.1 = j) (h2 : firstI s.1 = j) : s = r := by
  have e := h.sys.apart (List.mem_map_of_mem hr) (List.mem_map_of_mem hs) (firstI_lead.1 h1) (firstI_lead.1 h2).1
  exact LRow.v_inj (h.fits s hs) (h.fits r hr) e

theorem count_one {h : List Bool} {j : Nat} (hj : firstI h = j) : h.count true = 1 ↔ ¬ true ∈ h.drop (j + 1) := by
  rcases firstI_range h with e | ⟨m, e, hm, ht, hl⟩
  · omega
  have : m = j := by omega
  subst this
  have hs : h = h.take m ++ h[m] :: h.drop (m + 1) := by rw [List.getElem_cons_drop, List.take_append_drop]
  have h0 : (h.take m).count true = 0 := List.count_eq_zero.2 fun hx => by
    obtain ⟨i, hi, he⟩ := List.getElem_of_mem hx
    simp at hi
    rw [List.getElem_take] at he
    have := hl i (by omega)
    rw [List.getD_eq_getElem?_getD, List.getElem?_eq_getElem (by omega)] at this
    simp only [Option.getD_some] at this
    rw [this] at he
    cases he
  have hm' : h[m] = true := by
    rw [List.getD_eq_getElem?_getD, List.getElem?_eq_getElem hm] at ht
    exact ht
  have hc : h.count true = (h.drop (m + 1)).count true + 1 := by
    conv => lhs; rw [hs]
    rw [List.count_append, h0, hm', List.count_cons_self]
    omega
  rw [hc]
  constructor
  · intro hh
    exact List.count_eq_zero.1 (by omega)
  · intro hh
    rw [List.count_eq_zero.2 hh]

/-- what a row of one block alone says is known -/
theorem known_has {n k : Nat} {A : List LRow} (hA : Right n k A) {r : LRow} (hr : r ∈ A) {j : Nat} (hj : j < n) (hc : r.1.count true = 1) (hf : firstI r.1 = j) : (knownL n A)[j]? = some r.2 := by
  have key : ∀ (B : List LRow), (∀ s ∈ B, s ∈ A) → ∀ (l : List (List UInt8)), l.length = n → (r ∈ B ∨ l[j]? = some r.2) → (B.foldl kSet l)[j]? = some r.2 := by
    intro B
    induction B with
    | nil =>
      intro _ l _ h
      rcases h with h | h
      · cases h
      · exact h
    | cons s B ih =>
      intro hB l hl h
      rw [List.foldl_cons]
      refine ih (fun x hx => hB x (List.mem_cons_of_mem _ hx)) _ (by rw [kSet_length]; exact hl) ?_
      by_cases e : s = r
      · subst e
        refine .inr ?_
        simp only [kSet, hc, if_true, hf, Int.toNat_natCast]
        rw [List.getElem?_set_self (by omega)]
      · rcases h with h | h
        · rcases List.mem_cons.1 h with h | h
          · exact absurd h.symm e
          · exact .inl h
        · refine .inr ?_
          unfold kSet
          split
          · rename_i hc2
            obtain ⟨F, hF, _⟩ := count_first hc2
            rw [hF]
            simp only [Int.toNat_natCast]
            have hne : F ≠ j := fun e2 => e (hA.lead_one hr (hB s List.mem_cons_self) hf (by rw [hF, e2]))
            rw [List.getElem?_set_ne hne]
            exact h
          · exact h
  exact key A (fun s hs => hs) _ (by simp) (.inl hr)

/-- a row of one block alone that others say is one of them -/
theorem Right.unit {n k : Nat} {P : List LRow} (hP : Right n k P) {r : LRow} {j : Nat} (hr : Fits n k r) (hc : r.1.count true = 1) (hf : firstI r.1 = j) (hs : Span (P.map LRow.v) (LRow.v r)) : r ∈ P := by
  have hu := unit_has hc hf
  obtain ⟨v, hv, hl⟩ := hP.sys.first hs (firstI_lead.1 hf)
  obtain ⟨s, hsP, rfl⟩ := List.mem_map.1 hv
  have h0 : (LRow.v s).add (LRow.v r) = V.o := by
    refine hP.sys.nought ((Span.mem hv).add hs) fun x hx m hm => ?_
    rw [V.has_add, hu m]
    by_cases e : m = j
    · subst e; rw [hl.1]; simp
    · rw [decide_eq_false e]
      rcases Bool.eq_false_or_eq_true ((LRow.v s).has m) with h | h
      · exfalso
        have e2 := hP.sys.apart hx hv hm h
        rw [← e2] at hm
        exact e (hm.one hl)
      · rw [h]; rfl
  rw [← LRow.v_inj (hP.fits s hsP) hr (V.eq_of_add h0)]
  exact hsP

/-- what was known stays known -/
theorem known_keeps {n k : Nat} {A P : List LRow} {r : LRow} (hA : Right n k A) (hr : Fits n k r) (ha : addL A r = some P) {j : Nat} (hj : j < n) : (knownL n A)[j]? = some [] ∨ (knownL n P)[j]? = (knownL n A)[j]? := by
  rcases known_cases n A hj with h | ⟨s, hs, hc, hf, h⟩
  · exact .inl h
  · refine .inr ?_
    obtain ⟨h1, h2⟩ := addL_right hA hr ha
    have hsP : s ∈ P := h1.unit (hA.fits s hs) hc hf ((h2 _).2 (.mem (List.mem_map_of_mem (List.mem_append_left _ hs))))
    rw [h, known_has h1 hsP hj hc hf]

/-- what both Adds answer of right rows -/
def AddAns (w w' : World) (n k : Nat) (A : List LRow) (r : LRow) (e : Ending) : Prop :=
  Below w.heap.size w w' ∧
  ((addL A r = none ∧ e = .returned (.tuple #[.agg #[.int .i64 0, .int .i64 0, .slice none 0 0], .bool false, .int .i64 9])) ∨
   ∃ (P : List LRow) (a : Option Addr) (c : Nat) (rows : List MRow), addL A r = some P ∧ e = .returned (.tuple #[.agg #[.int .i64 n, .int .i64 k, .slice a rows.length c], .bool (decide (P.length = A.length + 1)), .int .i64 0]) ∧
     Lies w' a (rowCells rows) ∧ (∀ x ∈ rows, RowIn w' x) ∧ rows.map MRow.says = P)

theorem AddPost.ans {w w' : World} {n k : Nat} {A : List LRow} {r : LRow} {e : Ending} (hR : Right n k A) (hr : Fits n k r) (h : AddPost w w' n k (A.length + 1) ((A ++ [r]).map LRow.v) e) : AddAns w w' n k A r e := by
  cases ha : addL A r with
  | none =>
    unfold addL at ha
    by_cases h1 : firstI (redL A r).1 = -1
    · rw [if_pos h1] at ha
      have h2 : ¬ (redL A r).2.all (· == 0) = true := fun hh => by rw [if_pos hh] at ha; cases ha
      have e1 := h.torn hR hr (by rw [← hR.redL hr]; exact firstI_no.1 h1) (by rw [← hR.redL hr]; exact fun hh => h2 (not_nought hh).2)
      exact ⟨e1.1, .inl ⟨ha ▸ (by unfold addL; rw [if_pos h1, if_neg h2]), e1.2⟩⟩
    · rw [if_neg h1] at ha; cases ha
  | some P =>
    obtain ⟨p1, p2⟩ := addL_right hR hr ha
    rcases addL_len ha with ⟨l, h1, rfl⟩ | ⟨l, h1⟩
    · have h0 : red n (P.map LRow.v) (LRow.v r) = V.o := by
        rw [← hR.redL hr]
        unfold addL at ha
        rw [if_pos h1] at ha
        have h2 : (redL P r).2.all (· == 0) = true := by
          rcases Bool.eq_false_or_eq_true ((redL P r).2.all (· == 0)) with h2 | h2
          · exact h2
          · rw [h2] at ha; simp at ha
        exact nought_of (redL_fits hR.fits hr) h1 h2
      obtain ⟨hb, g, cap, rows, e1, e2, e3, e4⟩ := h.same hR hr h0
      refine ⟨hb, .inr ⟨P, _, cap, rows, ha, ?_, e2, e3, e4⟩⟩
      have hl : rows.length = P.length := by have := congrArg List.length e4; simpa using this
      rw [e1, hl, decide_eq_false (by omega)]
    · obtain ⟨hb, g, cap, rows, e1, e2, e3, e4⟩ := h.more hR hr p1 l p2
      refine ⟨hb, .inr ⟨P, _, cap, rows, ha, ?_, e2, e3, e4⟩⟩
      have hl : rows.length = P.length := by have := congrArg List.length e4; simpa using this
      rw [e1, hl, decide_eq_true l, l]

end Go.Proofs.Ytclbmfjincekfab
