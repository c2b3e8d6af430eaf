/-
  A row put among rows in order, told by lists: the document's Add.
-/
import Derived.Test.YtclbmfjincekfabAddPure
namespace Go.Proofs.Ytclbmfjincekfab
open Go.RowKit
set_option linter.unusedVariables false
set_option linter.unusedSimpArgs false

/-- both rows' sum, told by lists -/
def LRow.add (a b : LRow) : LRow := (xorH a.1 b.1, xorl a.2 b.2)

theorem LRow.v_add {n k : Nat} {a b : LRow} (ha : Fits n k a) (hb : Fits n k b) : LRow.v (LRow.add a b) = (LRow.v a).add (LRow.v b) := xor_v ha hb

theorem LRow.fits_add {n k : Nat} {a b : LRow} (ha : Fits n k a) (hb : Fits n k b) : Fits n k (LRow.add a b) := by
  refine ⟨?_, ?_⟩
  · show (xorH a.1 b.1).length = n
    rw [xorH_length (by rw [ha.1, hb.1]), ha.1]
  · show (xorl a.2 b.2).length = k
    rw [xorl_length _ _ (by rw [ha.2, hb.2]), ha.2]

/-- one row of the system is added where its first block is in it -/
def redStep (r s : LRow) : LRow := if r.1.getD (firstI s.1).toNat false = true then LRow.add r s else r

/-- a row brought down by rows -/
def redL (A : List LRow) (r : LRow) : LRow := A.foldl redStep r

theorem redL_snoc (A : List LRow) (s r : LRow) : redL (A ++ [s]) r = redStep (redL A r) s := by simp [redL, List.foldl_append]

theorem fst_firstI {n k : Nat} {s : LRow} (hs : Fits n k s) (hl : ∃ m, Lead (LRow.v s) m) : fst n (LRow.v s) = (firstI s.1).toNat := by
  obtain ⟨m, hm⟩ := hl
  rw [fst_lead hm ((LRow.v_of hs).lead hm), firstI_lead.2 hm]
  simp

theorem redL_fits {n k : Nat} {A : List LRow} (hA : ∀ s ∈ A, Fits n k s) : ∀ {r : LRow}, Fits n k r → Fits n k (redL A r) := by
  induction A with
  | nil => intro r hr; exact hr
  | cons s A ih =>
    intro r hr
    show Fits n k (redL A (redStep r s))
    refine ih (fun x hx => hA x (List.mem_cons_of_mem _ hx)) ?_
    unfold redStep
    split
    · exact LRow.fits_add hr (hA s List.mem_cons_self)
    · exact hr

theorem redL_v {n k : Nat} {A : List LRow} (hA : ∀ s ∈ A, Fits n k s) (hl : ∀ s ∈ A, ∃ m, Lead (LRow.v s) m) : ∀ {r : LRow}, Fits n k r → LRow.v (redL A r) = red n (A.map LRow.v) (LRow.v r) := by
  induction A with
  | nil => intro r _; rfl
  | cons s A ih =>
    intro r hr
    have hs := hA s List.mem_cons_self
    rw [List.map_cons, red_cons, fst_firstI hs (hl s List.mem_cons_self)]
    show LRow.v (redL A (redStep r s)) = _
    have e : LRow.v (redStep r s) = if (LRow.v r).has (firstI s.1).toNat = true then (LRow.v r).add (LRow.v s) else LRow.v r := by
      unfold redStep
      show LRow.v (if r.1.getD (firstI s.1).toNat false = true then _ else _) = if r.1.getD (firstI s.1).toNat false = true then _ else _
      split
      · exact LRow.v_add hr hs
      · rfl
    rw [← e]
    refine ih (fun x hx => hA x (List.mem_cons_of_mem _ hx)) (fun x hx => hl x (List.mem_cons_of_mem _ hx)) ?_
    unfold redStep
    split
    · exact LRow.fits_add hr hs
    · exact hr

theorem Right.redL {n k : Nat} {A : List LRow} (h : Right n k A) {r : LRow} (hr : Fits n k r) : LRow.v (redL A r) = red n (A.map LRow.v) (LRow.v r) :=
  redL_v h.fits (fun s hs => h.sys.lead _ (List.mem_map_of_mem hs)) hr

/-- what a row becomes behind a new one of which it has the first block -/
def clrL (p : LRow) (s : LRow) : LRow := if s.1.getD (firstI p.1).toNat false = true then LRow.add s p else s

theorem clrL_fits {n k : Nat} {p s : LRow} (hp : Fits n k p) (hs : Fits n k s) : Fits n k (clrL p s) := by
  unfold clrL
  split
  · exact LRow.fits_add hs hp
  · exact hs

theorem clrL_v {n k f : Nat} {p s : LRow} (hp : Fits n k p) (hs : Fits n k s) (hf : firstI p.1 = f) : LRow.v (clrL p s) = clr (LRow.v p) f (LRow.v s) := by
  unfold clrL clr
  rw [hf]
  simp only [Int.toNat_natCast]
  show LRow.v (if s.1.getD f false = true then _ else _) = if s.1.getD f false = true then _ else _
  split
  · exact LRow.v_add hs hp
  · rfl

/-- the new row among the others -/
def insL (X Y : List LRow) (p : LRow) : List LRow := X.map (clrL p) ++ p :: Y.map (clrL p)

theorem insL_length (X Y : List LRow) (p : LRow) : (insL X Y p).length = (X ++ Y).length + 1 := by simp [insL]; omega

theorem insL_v {n k f : Nat} {X Y : List LRow} {p : LRow} (hX : ∀ s ∈ X ++ Y, Fits n k s) (hp : Fits n k p) (hf : firstI p.1 = f) : (insL X Y p).map LRow.v = (X.map LRow.v).map (clr (LRow.v p) f) ++ LRow.v p :: (Y.map LRow.v).map (clr (LRow.v p) f) := by
  have h : ∀ (Z : List LRow), (∀ s ∈ Z, Fits n k s) → (Z.map (clrL p)).map LRow.v = (Z.map LRow.v).map (clr (LRow.v p) f) := by
    intro Z hZ
    rw [List.map_map, List.map_map]
    exact List.map_congr_left fun s hs => clrL_v hp (hZ s hs) hf
  unfold insL
  rw [List.map_append, List.map_cons, h X (fun s hs => hX s (List.mem_append_left _ hs)), h Y (fun s hs => hX s (List.mem_append_right _ hs))]

/-- what is left of the row, put among the others by its first block: right again, and all is said that they and the row say -/
theorem Right.insL {n k f : Nat} {X Y : List LRow} {p r : LRow} (h : Right n k (X ++ Y)) (hr : Fits n k r) (hp : Go.Proofs.Ytclbmfjincekfab.redL (X ++ Y) r = p) (hf : firstI p.1 = f) (hX : ∀ s ∈ X, firstI s.1 < f) (hY : ∀ s ∈ Y, (f : Int) < firstI s.1) :
    Right n k (Go.Proofs.Ytclbmfjincekfab.insL X Y p) ∧ ∀ v, Span ((Go.Proofs.Ytclbmfjincekfab.insL X Y p).map LRow.v) v ↔ Span (((X ++ Y) ++ [r]).map LRow.v) v := by
  have hpf : Fits n k p := by rw [← hp]; exact redL_fits h.fits hr
  have hv : LRow.v p = red n ((X ++ Y).map LRow.v) (LRow.v r) := by rw [← hp]; exact h.redL hr
  have hl : Lead (LRow.v p) f := firstI_lead.1 hf
  have hlead : ∀ s ∈ X ++ Y, ∃ j : Nat, Lead (LRow.v s) j ∧ firstI s.1 = j := fun s hs => by
    obtain ⟨j, hj⟩ := h.sys.lead _ (List.mem_map_of_mem hs)
    exact ⟨j, hj, firstI_lead.2 hj⟩
  have hsys := h.sys
  rw [List.map_append] at hsys
  have hS : Sys ((X.map LRow.v).map (clr (LRow.v p) f) ++ LRow.v p :: (Y.map LRow.v).map (clr (LRow.v p) f)) := by
    refine hsys.insert hl ?_ ?_ ?_
    · intro s hs j hj
      rw [hv]
      exact red_clear h.sys h.of _ s (by rw [List.map_append]; exact hs) j hj
    · intro s hs
      obtain ⟨t, ht, rfl⟩ := List.mem_map.1 hs
      obtain ⟨j, hj, e⟩ := hlead t (List.mem_append_left _ ht)
      have := hX t ht
      exact ⟨j, by omega, hj⟩
    · intro s hs
      obtain ⟨t, ht, rfl⟩ := List.mem_map.1 hs
      obtain ⟨j, hj, e⟩ := hlead t (List.mem_append_right _ ht)
      have := hY t ht
      exact ⟨j, by omega, hj⟩
  refine ⟨⟨h.n1, h.n2, h.k1, h.k2, ?_, ?_⟩, ?_⟩
  · intro s hs
    rcases List.mem_append.1 hs with hs | hs
    · obtain ⟨t, ht, rfl⟩ := List.mem_map.1 hs
      exact clrL_fits hpf (h.fits t (List.mem_append_left _ ht))
    · rcases List.mem_cons.1 hs with rfl | hs
      · exact hpf
      · obtain ⟨t, ht, rfl⟩ := List.mem_map.1 hs
        exact clrL_fits hpf (h.fits t (List.mem_append_right _ ht))
  · rw [insL_v h.fits hpf hf]
    exact hS
  · intro v
    rw [insL_v h.fits hpf hf, insert_span, List.map_append (l₁ := X ++ Y), List.map_append, List.map_cons, List.map_nil]
    rw [red_same n (X.map LRow.v ++ Y.map LRow.v) (LRow.v r) v]
    rw [hv, List.map_append]

end Go.Proofs.Ytclbmfjincekfab
