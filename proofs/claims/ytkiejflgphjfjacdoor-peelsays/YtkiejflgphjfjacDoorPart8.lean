import Derived.Test.YtkiejflgphjfjacDoorPart5
import Derived.Test.YtkiejflgphjfjacDoorPart7
/-
  What AddRow leaves, told by what is left of the row: nothing new, torn, or one row more.
-/
namespace Go.Proofs.YtkiejflgphjfjacDoor
open Go.RowKit
set_option linter.unusedVariables false
set_option linter.unusedSimpArgs false

theorem AddPost.anew {A : List LRow} {r : LRow} {n N a : Nat} {R : List MRow} {L : Nat → Nat} (hN : N = A.length + 1) (h7 : El (Vof R) N a n L) (h8 : ∀ v, Span (rowsOf (Vof R) N) v ↔ Span ((A ++ [r]).map LRow.v) v) : Anew n (A.map LRow.v) (LRow.v r) (Vof R) a L := by
  subst hN
  refine ⟨by simpa using h7, ?_⟩
  simpa using h8

/-- rows by their places, told by lists -/
theorem says_of_rows {R : List MRow} {P : List LRow} {n k a : Nat} (ha : a ≤ R.length) (hR : ∀ x ∈ R, Fits n k x.says) (hP : ∀ x ∈ P, Fits n k x) (h : rowsOf (Vof R) a = P.map LRow.v) : (R.take a).map MRow.says = P := by
  refine rows_inj (n := n) (k := k) ?_ hP ?_
  · intro x hx
    obtain ⟨y, hy, rfl⟩ := List.mem_map.1 hx
    exact hR y (List.mem_of_mem_take hy)
  · rw [← h]
    unfold rowsOf
    apply List.ext_getElem
    · simp [ha]
    · intro i p1 p2
      simp at p1 p2
      rw [List.getElem_map, List.getElem_map, List.getElem_map, List.getElem_range, List.getElem_take, Vof_at (by omega)]

section
variable {w w' : World} {n k : Nat} {A : List LRow} {r : LRow} {e : Ending}

/-- the row says nothing new -/
theorem AddPost.same (hR : Right n k A) (hr : Fits n k r) (h : AddPost w w' n k (A.length + 1) ((A ++ [r]).map LRow.v) e) (hp : red n (A.map LRow.v) (LRow.v r) = V.o) :
    Below w.heap.size w w' ∧ ∃ (g cap : Nat) (rows : List MRow), e = .returned (.tuple #[.agg #[.int .i64 n, .int .i64 k, .slice (some ⟨g, 0, none⟩) A.length cap], .bool false, .int .i64 0]) ∧ Lies w' (some ⟨g, 0, none⟩) (rowCells rows) ∧ (∀ x ∈ rows, RowIn w' x) ∧ rows.map MRow.says = A := by
  obtain ⟨hb, R, a, L, i4, i6, i7, i8, hc⟩ := h
  have hA := AddPost.anew rfl i7 i8
  obtain ⟨e1, e2, e3⟩ := hA.same hR.of (LRow.v_of hr) hR.sys hp
  simp only [List.length_map] at e1 e3
  refine ⟨hb, ?_⟩
  rcases hc with ⟨h1, _⟩ | ⟨h1, ⟨j, hj⟩, _⟩ | ⟨h1, _, g, cap, h2, h3⟩
  · omega
  · exfalso
    rw [e1, e3] at hj
    exact hj rfl
  · refine ⟨g, cap, R.take a, by rw [h2, e1], h3, fun x hx => (i6 x (List.mem_of_mem_take hx)).1, ?_⟩
    exact says_of_rows (by omega) (fun x hx => (i6 x hx).2) hR.fits e2

/-- the row belongs not to them -/
theorem AddPost.torn (hR : Right n k A) (hr : Fits n k r) (h : AddPost w w' n k (A.length + 1) ((A ++ [r]).map LRow.v) e) (hp : None' (red n (A.map LRow.v) (LRow.v r))) (hne : red n (A.map LRow.v) (LRow.v r) ≠ V.o) :
    Below w.heap.size w w' ∧ e = .returned (.tuple #[.agg #[.int .i64 0, .int .i64 0, .slice none 0 0], .bool false, .int .i64 9]) := by
  obtain ⟨hb, R, a, L, i4, i6, i7, i8, hc⟩ := h
  have hA := AddPost.anew rfl i7 i8
  obtain ⟨e1, e2, e3⟩ := hA.torn hR.of (LRow.v_of hr) hR.sys hp hne
  simp only [List.length_map] at e1 e2 e3
  refine ⟨hb, ?_⟩
  rcases hc with ⟨h1, _⟩ | ⟨h1, _, h2⟩ | ⟨h1, h0, _⟩
  · omega
  · exact h2
  · exfalso
    rw [e1] at h0
    exact e3 (V.ext' (fun j => e2 j) (fun j => h0 j))

/-- one row more: the one order of all -/
theorem AddPost.more {P : List LRow} (hR : Right n k A) (hr : Fits n k r) (h : AddPost w w' n k (A.length + 1) ((A ++ [r]).map LRow.v) e) (hP : Right n k P) (hl : P.length = A.length + 1) (hsp : ∀ v, Span (P.map LRow.v) v ↔ Span ((A ++ [r]).map LRow.v) v) :
    Below w.heap.size w w' ∧ ∃ (g cap : Nat) (rows : List MRow), e = .returned (.tuple #[.agg #[.int .i64 n, .int .i64 k, .slice (some ⟨g, 0, none⟩) (A.length + 1) cap], .bool true, .int .i64 0]) ∧ Lies w' (some ⟨g, 0, none⟩) (rowCells rows) ∧ (∀ x ∈ rows, RowIn w' x) ∧ rows.map MRow.says = P := by
  obtain ⟨hb, R, a, L, i4, i6, i7, i8, hc⟩ := h
  have hA := AddPost.anew rfl i7 i8
  have e2 := hA.more hR.of (LRow.v_of hr) hP.sys (by simpa using hsp)
  have ea : a = A.length + 1 := by
    have := congrArg List.length e2
    rw [rowsOf_length, List.length_map, hl] at this
    exact this
  refine ⟨hb, ?_⟩
  rcases hc with ⟨h1, g, cap, h2, h3⟩ | ⟨h1, _⟩ | ⟨h1, _⟩
  · refine ⟨g, cap, R, h2, h3, fun x hx => (i6 x hx).1, ?_⟩
    have := says_of_rows (by omega) (fun x hx => (i6 x hx).2) hP.fits e2
    rwa [List.take_of_length_le (by omega)] at this
  · omega
  · omega

end

end Go.Proofs.YtkiejflgphjfjacDoor

/-
  Chapter 5, pure: what the program's own steps come to: who has a block, where a row is put, what is known.
-/
namespace Go.Proofs.YtkiejflgphjfjacDoor
open Go.RowKit
set_option linter.unusedVariables false
set_option linter.unusedSimpArgs false

/-- how many rows have this block -/
def holdL (A : List LRow) (f : Nat) : Nat := A.countP fun r => r.1.getD f false

theorem hold_one {A : List LRow} {i f : Nat} (hi : i < A.length) (hf : A[i].1.getD f false = true) : holdL A f = 1 ↔ ∀ j (hj : j < A.length), j ≠ i → A[j].1.getD f false = false := by
  have hs : A = A.take i ++ A[i] :: A.drop (i + 1) := by rw [List.getElem_cons_drop, List.take_append_drop]
  have hc : holdL A f = (A.take i).countP (fun r => r.1.getD f false) + (A.drop (i + 1)).countP (fun r => r.1.getD f false) + 1 := by
    unfold holdL
    conv => lhs; rw [hs]
    have hp : (fun r : LRow => r.1.getD f false) A[i] = true := hf
    rw [List.countP_append, List.countP_cons_of_pos (p := fun r : LRow => r.1.getD f false) hp]
    omega
  constructor
  · intro h j hj hne
    have h1 : (A.take i).countP (fun r => r.1.getD f false) = 0 := by omega
    have h2 : (A.drop (i + 1)).countP (fun r => r.1.getD f false) = 0 := by omega
    rw [List.countP_eq_zero] at h1 h2
    rcases Nat.lt_or_gt_of_ne hne with hlt | hlt
    · have := h1 A[j] (by
        have e : (A.take i)[j]'(by simp; omega) = A[j] := List.getElem_take
        rw [← e]; exact List.getElem_mem _)
      simpa using this
    · have := h2 A[j] (by
        have e : (A.drop (i + 1))[j - (i + 1)]'(by simp; omega) = A[j] := by rw [List.getElem_drop]; congr 1; omega
        rw [← e]; exact List.getElem_mem _)
      simpa using this
  · intro h
    have h1 : (A.take i).countP (fun r => r.1.getD f false) = 0 := by
      rw [List.countP_eq_zero]
      intro x hx
      obtain ⟨j, hj, rfl⟩ := List.getElem_of_mem hx
      simp at hj
      rw [List.getElem_take]
      have := h j (by omega) (by omega)
      show ¬ A[j].1.getD f false = true
      rw [this]
      simp
    have h2 : (A.drop (i + 1)).countP (fun r => r.1.getD f false) = 0 := by
      rw [List.countP_eq_zero]
      intro x hx
      obtain ⟨j, hj, rfl⟩ := List.getElem_of_mem hx
      simp at hj
      rw [List.getElem_drop]
      have := h (i + 1 + j) (by omega) (by omega)
      show ¬ A[i + 1 + j].1.getD f false = true
      rw [this]
      simp
    omega

/-- the first block of a row stays, where another row is added that is of a later one -/
theorem clrL_first {n k f : Nat} {p s : LRow} (hp : Fits n k p) (hs : Fits n k s) (hf : firstI p.1 = f) (hl : ∃ m, Lead (LRow.v s) m) (hz : ∀ j, Lead (LRow.v s) j → (LRow.v p).has j = false) : firstI (clrL p s).1 = firstI s.1 := by
  obtain ⟨m, hm⟩ := hl
  have hpl : Lead (LRow.v p) f := firstI_lead.1 hf
  have hne : m ≠ f := fun e => by
    have := hz m hm
    rw [e, hpl.1] at this
    cases this
  have h := clr_lead hpl hm (hz m hm) hne
  rw [← clrL_v hp hs hf] at h
  rw [firstI_lead.2 h, firstI_lead.2 hm]

/-- where a row of this first block is put -/
def posL (A : List LRow) (f : Int) : Nat := A.findIdx fun s => decide (f < firstI s.1)

theorem posL_le (A : List LRow) (f : Int) : posL A f ≤ A.length := List.findIdx_le_length

theorem posL_low {A : List LRow} {f : Int} (h : ∀ s ∈ A, firstI s.1 ≠ f) : posL A f = (lowL A f).length := by
  unfold posL lowL
  induction A with
  | nil => rfl
  | cons s A ih =>
    have hs := h s List.mem_cons_self
    rw [List.findIdx_cons, List.takeWhile_cons]
    by_cases e : firstI s.1 < f
    · have e2 : decide (f < firstI s.1) = false := decide_eq_false (by omega)
      simp only [e2, cond_false, decide_eq_true e, if_true, List.length_cons]
      rw [ih fun x hx => h x (List.mem_cons_of_mem _ hx)]
    · have e2 : decide (f < firstI s.1) = true := decide_eq_true (by omega)
      simp [e2, e]

theorem posL_map {A : List LRow} {f : Int} {g : LRow → LRow} (h : ∀ s ∈ A, firstI (g s).1 = firstI s.1) : posL (A.map g) f = posL A f := by
  unfold posL
  induction A with
  | nil => rfl
  | cons s A ih =>
    rw [List.map_cons, List.findIdx_cons, List.findIdx_cons, h s List.mem_cons_self, ih fun x hx => h x (List.mem_cons_of_mem _ hx)]

/-- the new row among the others, by its place -/
theorem insL_pos {A : List LRow} {p : LRow} {f : Int} (h : ∀ s ∈ A, firstI s.1 ≠ f) : insL (lowL A f) (highL A f) p = (A.map (clrL p)).take (posL A f) ++ p :: (A.map (clrL p)).drop (posL A f) := by
  rw [posL_low h]
  have e : A.map (clrL p) = (lowL A f).map (clrL p) ++ (highL A f).map (clrL p) := by rw [← List.map_append, low_high]
  rw [e]
  have l : (lowL A f).length = ((lowL A f).map (clrL p)).length := by simp
  rw [l, List.take_left, List.drop_left]
  rfl

theorem addL_len {A P : List LRow} {r : LRow} (h : addL A r = some P) : P.length = A.length ∧ firstI (redL A r).1 = -1 ∧ P = A ∨ P.length = A.length + 1 ∧ firstI (redL A r).1 ≠ -1 := by
  unfold addL at h
  by_cases h1 : firstI (redL A r).1 = -1
  · rw [if_pos h1] at h
    split at h
    · cases h; exact .inl ⟨rfl, h1, rfl⟩
    · cases h
  · rw [if_neg h1] at h
    cases h
    refine .inr ⟨?_, h1⟩
    rw [insL_length, low_high]

/-- a row that others say already -/
theorem addL_said {n k : Nat} {A : List LRow} {r : LRow} (h : Right n k A) (hr : Fits n k r) (hs : Span (A.map LRow.v) (LRow.v r)) : addL A r = some A := by
  have h0 : LRow.v (redL A r) = V.o := by
    rw [h.redL hr]
    refine h.sys.nought ?_ fun s hs k hk => red_clear h.sys h.of _ s hs k hk
    have := (red_span n (A.map LRow.v) (LRow.v r)).add hs
    rwa [V.add_add] at this
  obtain ⟨a, b⟩ := not_nought h0
  rw [addL, if_pos a, if_pos b]

/-- .. and so when it comes again -/
theorem addL_again {n k : Nat} {A P : List LRow} {r : LRow} (h : Right n k A) (hr : Fits n k r) (ha : addL A r = some P) : addL P r = some P := by
  obtain ⟨h1, h2⟩ := addL_right h hr ha
  refine addL_said h1 hr ((h2 _).2 ?_)
  exact .mem (by simp)

/-- of right rows one alone has this first block -/
theorem Right.lead_one {n k : Nat} {A : List LRow} (h : Right n k A) {r s : LRow} (hr : r ∈ A) (hs : s ∈ A) {j : Nat} (h1 : firstI r.1 = j) (h2 : firstI s.1 = j) : s = r := by
  have e := h.sys.apart (List.mem_map_of_mem hr) (List.mem_map_of_mem hs) (firstI_lead.1 h1) (firstI_lead.1 h2).1
  exact LRow.v_inj (h.fits s hs) (h.fits r hr) e

theorem count_one {h : List Bool} {j : Nat} (hj : firstI h = j) : h.count true = 1 ↔ ¬ true ∈ h.drop (j + 1) := by
  rcases firstI_range h with e | ⟨m, e, hm, ht, hl⟩
  · omega
  have : m = j := by omega
  subst this
  have hs : h = h.take m ++ h[m] :: h.drop (m + 1) := by rw [List.getElem_cons_drop, List.take_append_drop]
  have h0 : (h.take m).count true = 0 := List.count_eq_zero.2 fun hx => by
    obtain ⟨i, hi, he⟩ := List.getElem_of_mem hx
    simp at hi
    rw [List.getElem_take] at he
    have := hl i (by omega)
    rw [List.getD_eq_getElem?_getD, List.getElem?_eq_getElem (by omega)] at this
    simp only [Option.getD_some] at this
    rw [this] at he
    cases he
  have hm' : h[m] = true := by
    rw [List.getD_eq_getElem?_getD, List.getElem?_eq_getElem hm] at ht
    exact ht
  have hc : h.count true = (h.drop (m + 1)).count true + 1 := by
    conv => lhs; rw [hs]
    rw [List.count_append, h0, hm', List.count_cons_self]
    omega
  rw [hc]
  constructor
  · intro hh
    exact List.count_eq_zero.1 (by omega)
  · intro hh
    rw [List.count_eq_zero.2 hh]

/-- what a row of one block alone says is known -/
theorem known_has {n k : Nat} {A : List LRow} (hA : Right n k A) {r : LRow} (hr : r ∈ A) {j : Nat} (hj : j < n) (hc : r.1.count true = 1) (hf : firstI r.1 = j) : (knownL n A)[j]? = some r.2 := by
  have key : ∀ (B : List LRow), (∀ s ∈ B, s ∈ A) → ∀ (l : List (List UInt8)), l.length = n → (r ∈ B ∨ l[j]? = some r.2) → (B.foldl kSet l)[j]? = some r.2 := by
    intro B
    induction B with
    | nil =>
      intro _ l _ h
      rcases h with h | h
      · cases h
      · exact h
    | cons s B ih =>
      intro hB l hl h
      rw [List.foldl_cons]
      refine ih (fun x hx => hB x (List.mem_cons_of_mem _ hx)) _ (by rw [kSet_length]; exact hl) ?_
      by_cases e : s = r
      · subst e
        refine .inr ?_
        simp only [kSet, hc, if_true, hf, Int.toNat_natCast]
        rw [List.getElem?_set_self (by omega)]
      · rcases h with h | h
        · rcases List.mem_cons.1 h with h | h
          · exact absurd h.symm e
          · exact .inl h
        · refine .inr ?_
          unfold kSet
          split
          · rename_i hc2
            obtain ⟨F, hF, _⟩ := count_first hc2
            rw [hF]
            simp only [Int.toNat_natCast]
            have hne : F ≠ j := fun e2 => e (hA.lead_one hr (hB s List.mem_cons_self) hf (by rw [hF, e2]))
            rw [List.getElem?_set_ne hne]
            exact h
          · exact h
  exact key A (fun s hs => hs) _ (by simp) (.inl hr)

/-- a row of one block alone that others say is one of them -/
theorem Right.unit {n k : Nat} {P : List LRow} (hP : Right n k P) {r : LRow} {j : Nat} (hr : Fits n k r) (hc : r.1.count true = 1) (hf : firstI r.1 = j) (hs : Span (P.map LRow.v) (LRow.v r)) : r ∈ P := by
  have hu := unit_has hc hf
  obtain ⟨v, hv, hl⟩ := hP.sys.first hs (firstI_lead.1 hf)
  obtain ⟨s, hsP, rfl⟩ := List.mem_map.1 hv
  have h0 : (LRow.v s).add (LRow.v r) = V.o := by
    refine hP.sys.nought ((Span.mem hv).add hs) fun x hx m hm => ?_
    rw [V.has_add, hu m]
    by_cases e : m = j
    · subst e; rw [hl.1]; simp
    · rw [decide_eq_false e]
      rcases Bool.eq_false_or_eq_true ((LRow.v s).has m) with h | h
      · exfalso
        have e2 := hP.sys.apart hx hv hm h
        rw [← e2] at hm
        exact e (hm.one hl)
      · rw [h]; rfl
  rw [← LRow.v_inj (hP.fits s hsP) hr (V.eq_of_add h0)]
  exact hsP

/-- what was known stays known -/
theorem known_keeps {n k : Nat} {A P : List LRow} {r : LRow} (hA : Right n k A) (hr : Fits n k r) (ha : addL A r = some P) {j : Nat} (hj : j < n) : (knownL n A)[j]? = some [] ∨ (knownL n P)[j]? = (knownL n A)[j]? := by
  rcases known_cases n A hj with h | ⟨s, hs, hc, hf, h⟩
  · exact .inl h
  · refine .inr ?_
    obtain ⟨h1, h2⟩ := addL_right hA hr ha
    have hsP : s ∈ P := h1.unit (hA.fits s hs) hc hf ((h2 _).2 (.mem (List.mem_map_of_mem (List.mem_append_left _ hs))))
    rw [h, known_has h1 hsP hj hc hf]

/-- what both Adds answer of right rows -/
def AddAns (w w' : World) (n k : Nat) (A : List LRow) (r : LRow) (e : Ending) : Prop :=
  Below w.heap.size w w' ∧
  ((addL A r = none ∧ e = .returned (.tuple #[.agg #[.int .i64 0, .int .i64 0, .slice none 0 0], .bool false, .int .i64 9])) ∨
   ∃ (P : List LRow) (a : Option Addr) (c : Nat) (rows : List MRow), addL A r = some P ∧ e = .returned (.tuple #[.agg #[.int .i64 n, .int .i64 k, .slice a rows.length c], .bool (decide (P.length = A.length + 1)), .int .i64 0]) ∧
     Lies w' a (rowCells rows) ∧ (∀ x ∈ rows, RowIn w' x) ∧ rows.map MRow.says = P)

theorem AddPost.ans {w w' : World} {n k : Nat} {A : List LRow} {r : LRow} {e : Ending} (hR : Right n k A) (hr : Fits n k r) (h : AddPost w w' n k (A.length + 1) ((A ++ [r]).map LRow.v) e) : AddAns w w' n k A r e := by
  cases ha : addL A r with
  | none =>
    unfold addL at ha
    by_cases h1 : firstI (redL A r).1 = -1
    · rw [if_pos h1] at ha
      have h2 : ¬ (redL A r).2.all (· == 0) = true := fun hh => by rw [if_pos hh] at ha; cases ha
      have e1 := h.torn hR hr (by rw [← hR.redL hr]; exact firstI_no.1 h1) (by rw [← hR.redL hr]; exact fun hh => h2 (not_nought hh).2)
      exact ⟨e1.1, .inl ⟨ha ▸ (by unfold addL; rw [if_pos h1, if_neg h2]), e1.2⟩⟩
    · rw [if_neg h1] at ha; cases ha
  | some P =>
    obtain ⟨p1, p2⟩ := addL_right hR hr ha
    rcases addL_len ha with ⟨l, h1, rfl⟩ | ⟨l, h1⟩
    · have h0 : red n (P.map LRow.v) (LRow.v r) = V.o := by
        rw [← hR.redL hr]
        unfold addL at ha
        rw [if_pos h1] at ha
        have h2 : (redL P r).2.all (· == 0) = true := by
          rcases Bool.eq_false_or_eq_true ((redL P r).2.all (· == 0)) with h2 | h2
          · exact h2
          · rw [h2] at ha; simp at ha
        exact nought_of (redL_fits hR.fits hr) h1 h2
      obtain ⟨hb, g, cap, rows, e1, e2, e3, e4⟩ := h.same hR hr h0
      refine ⟨hb, .inr ⟨P, _, cap, rows, ha, ?_, e2, e3, e4⟩⟩
      have hl : rows.length = P.length := by have := congrArg List.length e4; simpa using this
      rw [e1, hl, decide_eq_false (by omega)]
    · obtain ⟨hb, g, cap, rows, e1, e2, e3, e4⟩ := h.more hR hr p1 l p2
      refine ⟨hb, .inr ⟨P, _, cap, rows, ha, ?_, e2, e3, e4⟩⟩
      have hl : rows.length = P.length := by have := congrArg List.length e4; simpa using this
      rw [e1, hl, decide_eq_true l, l]

end Go.Proofs.YtkiejflgphjfjacDoor

/-
  Chapter 5's Decode, pure: symbols of a cargo, in whatever order; when all is known; a byte that is turned.
-/
namespace Go.Proofs.YtkiejflgphjfjacDoor
open Go.RowKit
set_option linter.unusedVariables false
set_option linter.unusedSimpArgs false

theorem allL_some {B K : Int} {n k nb : Nat} (g : Good B K n k nb) : ∀ {l : List LSym} {A P : List LRow}, Right nb k A → allL B K nb A l = (0, P) → addAll A (l.map (rowOf nb)) = some P ∧ ∀ y ∈ l, y.2.length = k := by
  intro l
  induction l with
  | nil => intro A P _ h; simp only [allL, Prod.mk.injEq, true_and] at h; subst h; exact ⟨rfl, fun y hy => by cases hy⟩
  | cons y l ih =>
    intro A P hA h
    by_cases h0 : (stepL B K nb A y).1 = 0
    · rw [allL_go h0] at h
      obtain ⟨e1, e2, e3⟩ := stepL_right g hA h0
      obtain ⟨p1, p2⟩ := ih e3 h
      refine ⟨?_, fun z hz => ?_⟩
      · simp only [List.map_cons, addAll, e1, Option.bind_some]
        exact p1
      · rcases List.mem_cons.1 hz with rfl | hz
        · exact e2
        · exact p2 z hz
    · rw [allL_bad h0] at h
      exact absurd (congrArg Prod.fst h) h0

theorem allL_of {B K : Int} {n k nb : Nat} (g : Good B K n k nb) : ∀ {l : List LSym} {A P : List LRow}, (∀ y ∈ l, chkS B K y.1 y.2.length = 0) → addAll A (l.map (rowOf nb)) = some P → allL B K nb A l = (0, P) := by
  intro l
  induction l with
  | nil => intro A P _ h; simp only [List.map_nil, addAll, Option.some.injEq] at h; subst h; rfl
  | cons y l ih =>
    intro A P hl h
    simp only [List.map_cons, addAll] at h
    cases ha : addL A (rowOf nb y) with
    | none => rw [ha] at h; cases h
    | some Q =>
      rw [ha] at h
      have hs := stepL_ok (hl y List.mem_cons_self) ha
      rw [allL_go (by rw [hs]), hs]
      exact ih (fun z hz => hl z (List.mem_cons_of_mem _ hz)) h

/-- a symbol of a cargo -/
noncomputable def symOf (nb k : Nat) (c : List UInt8) (i : Nat) : LSym := ((i : Int), symL nb k c i)

theorem symOf_row (nb k : Nat) (c : List UInt8) (i : Nat) : rowOf nb (symOf nb k c i) = symRow nb k c i := by simp [rowOf, symOf, symRow]

theorem symOf_chk {B K : Int} {n k nb i : Nat} (g : Good B K n k nb) (c : List UInt8) (hi : i ≤ 9999) : chkS B K (symOf nb k c i).1 (symOf nb k c i).2.length = 0 := by
  refine chkS_ok (chkP_good g) (by simp only [symOf]; omega) ?_
  simp only [symOf, symL_length]
  exact g.eK.symm

/-- all rows there are: each has one block alone -/
theorem full_units {nb k : Nat} {P : List LRow} (hP : Right nb k P) (hl : P.length = nb) {j : Nat} (hj : j < P.length) : P[j].1.count true = 1 ∧ firstI P[j].1 = j := by
  have hu := hP.sys.units hP.of (by simpa using hl) j (by simpa using hj)
  simp only [List.getElem_map] at hu
  have hlead : Lead (LRow.v P[j]) j := ⟨by rw [hu j]; simp, fun i hi => by rw [hu i]; simp; omega⟩
  have hf := firstI_lead.2 hlead
  refine ⟨?_, hf⟩
  rw [count_one hf]
  intro hm
  obtain ⟨i, hi, he⟩ := List.getElem_of_mem hm
  rw [List.getElem_drop] at he
  have hlt : j + 1 + i < P[j].1.length := by simp at hi; omega
  have h := hu (j + 1 + i)
  rw [LRow.v_has hlt, he, decide_eq_false (by omega)] at h
  cases h

/-- all that is known, where all rows are there -/
theorem full_known {nb k : Nat} {P : List LRow} (hP : Right nb k P) (hl : P.length = nb) : knownL nb P = P.map Prod.snd := by
  apply List.ext_getElem?
  intro j
  by_cases hj : j < nb
  · have hj' : j < P.length := by omega
    obtain ⟨h1, h2⟩ := full_units hP hl hj'
    rw [known_has hP (List.getElem_mem hj') hj h1 h2]
    simp [hj']
  · rw [List.getElem?_eq_none (by rw [knownL_length]; omega), List.getElem?_eq_none (by simp; omega)]

theorem piece_of {k j : Nat} {c d : List UInt8} (hd : d.length = k) (h : ∀ i, d.getD i 0 = blkAt k c j i) : d = piece k j c := by
  apply List.ext_getElem (by rw [hd, piece_length])
  intro i h1 h2
  have := h i
  rw [List.getD_eq_getElem?_getD, List.getElem?_eq_getElem h1] at this
  unfold blkAt at this
  rw [List.getD_eq_getElem?_getD, List.getElem?_eq_getElem h2] at this
  simpa using this

/-- of true rows: all is known, and it is the cargo's blocks -/
theorem full_true {nb k : Nat} {c : List UInt8} {P : List LRow} (hP : Right nb k P) (hl : P.length = nb) (hT : ∀ s ∈ P, Tr nb (blkAt k c) (LRow.v s)) : knownL nb P = cutL nb k c := by
  rw [full_known hP hl]
  apply List.ext_getElem
  · simp [cutL_length, hl]
  · intro j h1 h2
    have hj : j < P.length := by simpa using h1
    obtain ⟨u1, u2⟩ := full_units hP hl hj
    have hu := unit_has u1 u2
    have h := (hT _ (List.getElem_mem hj)).one (by omega) hu
    simp only [List.getElem_map, cutL, List.getElem_range]
    exact piece_of (hP.fits _ (List.getElem_mem hj)).2 h

/-- the rows of symbols of a cargo -/
theorem sym_rows {B K : Int} {n k nb : Nat} (g : Good B K n k nb) (c : List UInt8) (ids : List Nat) (hi : ∀ i ∈ ids, i ≤ 9999) : ∃ P, addAll [] (ids.map (symRow nb k c)) = some P ∧ Right nb k P ∧ (∀ v, Span (P.map LRow.v) v ↔ Span ((ids.map (symRow nb k c)).map LRow.v) v) ∧ (∀ s ∈ P, Tr nb (blkAt k c) (LRow.v s)) ∧
    allL B K nb [] (ids.map (symOf nb k c)) = (0, P) := by
  have hR0 : Right nb k [] := ⟨g.b1, g.b2, g.k1, g.k2, (fun r hr => by cases hr), Sys.nil⟩
  have hfit : ∀ r ∈ ids.map (symRow nb k c), Fits nb k r ∧ Tr nb (blkAt k c) (LRow.v r) := fun r hr => by
    obtain ⟨i, _, rfl⟩ := List.mem_map.1 hr
    exact ⟨symRow_fits nb k c i, symRow_true g.b1 g.b2⟩
  obtain ⟨P, hP, hT⟩ := addAll_true (B := blkAt k c) hR0 (fun s hs => by cases hs) hfit
  obtain ⟨p1, p2⟩ := addAll_right hR0 (fun r hr => (hfit r hr).1) hP
  refine ⟨P, hP, p1, by simpa using p2, hT, ?_⟩
  refine allL_of g (fun y hy => ?_) ?_
  · obtain ⟨i, hi', rfl⟩ := List.mem_map.1 hy
    exact symOf_chk g c (hi i hi')
  · rw [List.map_map]
    have e : (rowOf nb ∘ symOf nb k c) = symRow nb k c := funext fun i => symOf_row nb k c i
    rw [e]
    exact hP

theorem nB_good {B K : Int} {n k nb : Nat} (g : Good B K n k nb) : (nB B K).toNat = nb := by rw [g.eN]; simp

/-- what Decode answers of symbols of a cargo -/
theorem dec_true {B K : Int} {n k nb : Nat} (g : Good B K n k nb) {c : List UInt8} (hc : c.length = n) {ids : List Nat} (hi : ∀ i ∈ ids, i ≤ 9999) (hl : ids.length ≤ 60) {P : List LRow} (hP : addAll [] (ids.map (symRow nb k c)) = some P) :
    (P.length < nb ∧ decCode B K (ids.map (symOf nb k c)) = 8 ∧ decRes B K (ids.map (symOf nb k c)) = []) ∨ (P.length = nb ∧ decCode B K (ids.map (symOf nb k c)) = 0 ∧ decRes B K (ids.map (symOf nb k c)) = c) := by
  obtain ⟨P', hP', hR, hS, hT, hA⟩ := sym_rows g c ids hi
  rw [hP] at hP'
  cases hP'
  have hfew := hR.few
  have e0 : ¬ (chkP B K ≠ 0) := by rw [chkP_good g]; simp
  have e1 : ¬ 60 < (ids.map (symOf nb k c)).length := by simp; omega
  have e2 : ¬ ((0 : Int) ≠ 0) := by simp
  unfold decCode decRes
  rw [if_neg e0, if_neg e1, if_neg e0, if_neg e1, nB_good g, hA]
  simp only [if_neg e2]
  by_cases h : P.length < nb
  · exact .inl ⟨h, if_pos h, if_pos h⟩
  · have hn : P.length = nb := by omega
    have hk := full_true hR hn hT
    obtain ⟨c1, c2⟩ := cutCode_good g hc
    obtain ⟨j1, j2⟩ := join_cut c1
    rw [c2] at j1 j2
    refine .inr ⟨hn, ?_, ?_⟩
    · rw [if_neg h, hk]; exact j1
    · rw [if_neg h, hk]; exact j2

/-- where others say as much, there are as many rows -/
theorem full_more {nb k : Nat} {P Q : List LRow} (hP : Right nb k P) (hQ : Right nb k Q) (hl : P.length = nb) (h : ∀ v, Span (P.map LRow.v) v → Span (Q.map LRow.v) v) : Q.length = nb := by
  have := hQ.sys.full hQ.of fun j hj => by
    have hj' : j < P.length := by omega
    obtain ⟨u1, u2⟩ := full_units hP hl hj'
    exact ⟨LRow.v P[j], h _ (.mem (List.mem_map_of_mem (List.getElem_mem hj'))), firstI_lead.1 u2⟩
  simpa using this

/-- the first symbols are enough -/
theorem first_enough {B K : Int} {n k nb : Nat} (g : Good B K n k nb) (c : List UInt8) {ids : List Nat} {P : List LRow} (hR : Right nb k P) (hS : ∀ v, Span (P.map LRow.v) v ↔ Span ((ids.map (symRow nb k c)).map LRow.v) v) (h : ∀ j, j < nb → j ∈ ids) : P.length = nb := by
  have := hR.sys.full hR.of fun j hj => by
    refine ⟨LRow.v (symRow nb k c j), (hS _).2 (.mem (List.mem_map_of_mem (List.mem_map_of_mem (h j hj)))), ?_⟩
    have e : ∀ i, (LRow.v (symRow nb k c j)).has i = decide (i = j) := fun i => by
      unfold symRow
      rw [maskL_has _ g.b1 g.b2, chosen_low hj]
      simp [mask]
    exact ⟨by rw [e]; simp, fun i hi => by rw [e]; simp; omega⟩
  simpa using this

/-- a symbol with its first byte turned is never of the cargo -/
theorem never_turned {B K : Int} {n k nb : Nat} (g : Good B K n k nb) {c : List UInt8} {l : List LSym} {i : Nat} {d : List UInt8} (hm : ((i : Int), d) ∈ l) (hd : d.getD 0 0 ≠ (symL nb k c i).getD 0 0) (h0 : decCode B K l = 0) (h1 : decRes B K l = c) : False := by
  have hR0 : Right nb k [] := ⟨g.b1, g.b2, g.k1, g.k2, (fun r hr => by cases hr), Sys.nil⟩
  have e0 : ¬ (chkP B K ≠ 0) := by rw [chkP_good g]; simp
  unfold decCode at h0
  unfold decRes at h1
  rw [if_neg e0] at h0 h1
  by_cases h60 : 60 < l.length
  · rw [if_pos h60] at h0; cases h0
  rw [if_neg h60, nB_good g] at h0 h1
  by_cases ha : (allL B K nb [] l).1 = 0
  · rw [if_neg (by rw [ha]; simp)] at h0 h1
    by_cases hlt : (allL B K nb [] l).2.length < nb
    · rw [if_pos hlt] at h0; cases h0
    rw [if_neg hlt] at h0 h1
    obtain ⟨P, hP⟩ : ∃ P, allL B K nb [] l = (0, P) := ⟨(allL B K nb [] l).2, by rw [← ha]⟩
    rw [hP] at h0 h1 hlt
    simp only at h0 h1 hlt
    obtain ⟨a1, a2⟩ := allL_some g hR0 hP
    obtain ⟨r1, r2⟩ := addAll_right hR0 (fun r hr => by
      obtain ⟨y, hy, rfl⟩ := List.mem_map.1 hr
      exact rowOf_fits (a2 y hy)) a1
    have hn : P.length = nb := by have := r1.few; omega
    obtain ⟨c1, c2⟩ := cut_join h0
    rw [h1] at c1 c2
    have hcl : c.length = n := by
      obtain ⟨n', k', nb', g', e'⟩ := cutCode_zero c1
      have := g.eB
      have := g'.eB
      omega
    rw [(cutCode_good g hcl).2, full_known r1 hn] at c2
    have hT : ∀ s ∈ P, Tr nb (blkAt k c) (LRow.v s) := by
      intro s hs
      obtain ⟨j, hj, rfl⟩ := List.getElem_of_mem hs
      obtain ⟨u1, u2⟩ := full_units r1 hn hj
      have hu := unit_has u1 u2
      intro t
      rw [sumAt_one hu, if_pos (by omega)]
      have e : P[j].2 = piece k j c := by
        have := congrArg (fun x => x[j]?) c2
        simp only [List.getElem?_map, List.getElem?_eq_getElem hj, Option.map_some, cutL_get c (show j < nb by omega), Option.some.injEq] at this
        exact this.symm
      show P[j].2.getD t 0 = blkAt k c j t
      rw [e]
      rfl
    have hsp : Span (P.map LRow.v) (LRow.v (rowOf nb ((i : Int), d))) := (r2 _).2 (.mem (by
      simp only [List.nil_append]
      exact List.mem_map_of_mem (List.mem_map_of_mem hm)))
    have ht := (hsp.tr fun s hs => by
      obtain ⟨t, ht, rfl⟩ := List.mem_map.1 hs
      exact hT t ht) 0
    have hs := symRow_true (k := k) (c := c) (i := i) g.b1 g.b2 0
    have e1 : (LRow.v (rowOf nb ((i : Int), d))).has = (LRow.v (symRow nb k c i)).has := by
      funext j
      show (maskL nb ((i : Int)).toNat).getD j false = (maskL nb i).getD j false
      simp
    rw [e1, ← hs] at ht
    exact hd ht
  · rw [if_pos ha] at h0
    exact ha h0

end Go.Proofs.YtkiejflgphjfjacDoor
