/-
  Chapter 7, of no program: records, their codes, their texts, and what a text says.
-/
import Derived.Test.YtcpnbkgkknlocaaDoorNoteP
import Derived.Test.YtcpnbkgkknlocaaDoorNote7
namespace Go.Proofs.YtcpnbkgkknlocaaDoor
open Go.RowKit
set_option linter.unusedVariables false
set_option linter.unusedSimpArgs false

/-- what chapter 7's Check answers -/
def recCode (k p n y : Int) (h : Hd) (id : Int) (dn cn : Nat) : Int :=
  match usesL k with
  | none => 4
  | some u => if formB u p n y h id dn cn = true then restCode u p n y h id dn cn else 4

/-- a record, told by its numbers and bytes -/
structure Rc where
  k : Int
  p : Int
  n : Int
  y : Int
  h : Hd
  id : Int
  d : List UInt8
  c : List UInt8
  deriving DecidableEq

def Rc.code (r : Rc) : Int := recCode r.k r.p r.n r.y r.h r.id r.d.length r.c.length

/-- its numbers are ints -/
def Rc.ints (r : Rc) : Prop := I64 r.k ∧ I64 r.p ∧ I64 r.n ∧ I64 r.y ∧ r.h.ok ∧ I64 r.id

/-- its numbers, as they stand in its text -/
def Rc.nums (r : Rc) : List Int := [r.k, r.p, r.n, r.y, r.h.F, r.h.Q, r.h.T, r.h.L, r.h.B, r.h.K, r.id]

/-- the words of its text -/
def Rc.words (r : Rc) : List (List UInt8) := r.nums.map Lib.itoa ++ [hexW r.d, hexW r.c]

/-- its text -/
def Rc.text (r : Rc) : List UInt8 := Lib.join r.words [32]

/-- the zero record -/
def rc0 : Rc := ⟨0, 0, 0, 0, ⟨0, 0, 0, 0, 0, 0⟩, 0, [], []⟩

/-- the record of numbers and bytes -/
def recOf (l : List Int) (d c : List UInt8) : Rc :=
  ⟨l.getD 0 0, l.getD 1 0, l.getD 2 0, l.getD 3 0, ⟨l.getD 4 0, l.getD 5 0, l.getD 6 0, l.getD 7 0, l.getD 8 0, l.getD 9 0⟩, l.getD 10 0, d, c⟩

/-- the numbers of words -/
def numsW : List (List UInt8) → Option (List Int)
  | [] => some []
  | x :: r => match numW x with
    | none => none
    | some v => (numsW r).map (v :: ·)

/-- what a text says, be it a record that Check takes or not -/
def readL (s : List UInt8) : Option Rc :=
  if (wordsL s).length = 13 then
    match numsW ((wordsL s).take 11), byW ((wordsL s).getD 11 []), byW ((wordsL s).getD 12 []) with
    | some l, some d, some c => some (recOf l d c)
    | _, _, _ => none
  else none

theorem numsW_append : ∀ (a b : List (List UInt8)) (l : List Int), numsW a = some l → numsW (a ++ b) = (numsW b).map (l ++ ·)
  | [], b, l, h => by
    simp [numsW] at h
    subst h
    rw [List.nil_append]
    cases numsW b <;> rfl
  | x :: r, b, l, h => by
    rw [numsW] at h
    rw [List.cons_append, numsW]
    cases hx : numW x with
    | none => rw [hx] at h; cases h
    | some v =>
      rw [hx] at h
      simp only at h ⊢
      cases hr : numsW r with
      | none => rw [hr] at h; cases h
      | some m =>
        rw [hr] at h
        simp only [Option.map_some, Option.some.injEq] at h
        subst h
        rw [numsW_append r b m hr]
        cases numsW b <;> rfl

theorem numsW_none : ∀ (a b : List (List UInt8)), numsW a = none → numsW (a ++ b) = none
  | [], b, h => by simp [numsW] at h
  | x :: r, b, h => by
    rw [numsW] at h
    rw [List.cons_append, numsW]
    cases hx : numW x with
    | none => rfl
    | some v =>
      rw [hx] at h
      simp only at h ⊢
      cases hr : numsW r with
      | none => rw [numsW_none r b hr]; rfl
      | some m => rw [hr] at h; cases h

theorem numsW_itoa : ∀ (l : List Int), (∀ n ∈ l, I64 n) → numsW (l.map Lib.itoa) = some l
  | [], _ => rfl
  | n :: r, h => by
    have hn := h n (by simp)
    rw [List.map_cons, numsW, numW_itoa n hn.1 hn.2, numsW_itoa r (fun m hm => h m (List.mem_cons_of_mem _ hm))]
    rfl

theorem itoa_numsW : ∀ (a : List (List UInt8)) (l : List Int), numsW a = some l → l.map Lib.itoa = a ∧ (∀ n ∈ l, I64 n)
  | [], l, h => by simp [numsW] at h; subst h; simp
  | x :: r, l, h => by
    rw [numsW] at h
    cases hx : numW x with
    | none => rw [hx] at h; cases h
    | some v =>
      rw [hx] at h
      simp only at h
      cases hr : numsW r with
      | none => rw [hr] at h; cases h
      | some m =>
        rw [hr] at h
        simp only [Option.map_some, Option.some.injEq] at h
        subst h
        obtain ⟨h1, h2⟩ := itoa_numsW r m hr
        obtain ⟨h3, h4⟩ := numW_back hx
        refine ⟨by rw [List.map_cons, h1, h3], ?_⟩
        intro n hn
        rcases List.mem_cons.1 hn with rfl | hn
        · exact h4
        · exact h2 n hn

theorem numsW_len {a : List (List UInt8)} {l : List Int} (h : numsW a = some l) : l.length = a.length := by
  have := congrArg List.length (itoa_numsW a l h).1
  simpa using this

theorem Rc.ints_nums {r : Rc} (h : r.ints) : ∀ n ∈ r.nums, I64 n := by
  obtain ⟨h1, h2, h3, h4, ⟨h5, h6, h7, h8, h9, h10⟩, h11⟩ := h
  intro n hn
  simp only [Rc.nums, List.mem_cons, List.not_mem_nil, or_false] at hn
  rcases hn with rfl | rfl | rfl | rfl | rfl | rfl | rfl | rfl | rfl | rfl | rfl <;> assumption

theorem recOf_nums (r : Rc) : recOf r.nums r.d r.c = r := by
  obtain ⟨k, p, n, y, ⟨F, Q, T, L, B, K⟩, id, d, c⟩ := r
  rfl

theorem words_text (r : Rc) : wordsL r.text = r.words := by
  refine wordsL_join _ (by simp [Rc.words]) ?_
  intro x hx
  simp only [Rc.words, List.mem_append, List.mem_map, List.mem_cons, List.not_mem_nil, or_false] at hx
  rcases hx with ⟨n, _, rfl⟩ | rfl | rfl
  · exact itoa_free n
  · exact hexW_free _
  · exact hexW_free _

/-- what is printed is read -/
theorem read_text {r : Rc} (h : r.ints) : readL r.text = some r := by
  have h1 : numsW (r.nums.map Lib.itoa) = some r.nums := numsW_itoa _ (Rc.ints_nums h)
  have h2 : r.words.take 11 = r.nums.map Lib.itoa := rfl
  have h3 : r.words.getD 11 [] = hexW r.d := rfl
  have h4 : r.words.getD 12 [] = hexW r.c := rfl
  rw [readL, words_text, if_pos (by rfl), h2, h3, h4, h1, byW_hexW, byW_hexW]
  simp only [recOf_nums]

theorem eleven {l : List Int} (h : l.length = 11) (d c : List UInt8) : (recOf l d c).nums = l := by
  match l, h with
  | [a, b, c, d, e, f, g, h, i, j, k], _ => rfl

/-- what is read is printed as it was -/
theorem text_read {s : List UInt8} {r : Rc} (h : readL s = some r) : r.text = s ∧ r.ints := by
  unfold readL at h
  split at h
  · rename_i hl
    cases h1 : numsW ((wordsL s).take 11) with
    | none => rw [h1] at h; cases h
    | some l =>
      cases h2 : byW ((wordsL s).getD 11 []) with
      | none => rw [h1, h2] at h; cases h
      | some d =>
        cases h3 : byW ((wordsL s).getD 12 []) with
        | none => rw [h1, h2, h3] at h; cases h
        | some c =>
          rw [h1, h2, h3] at h
          simp only [Option.some.injEq] at h
          have hll : l.length = 11 := by rw [numsW_len h1, List.length_take, hl]; rfl
          have hn := eleven hll d c
          rw [h] at hn
          have hd : r.d = d := by rw [← h]; rfl
          have hc : r.c = c := by rw [← h]; rfl
          obtain ⟨e1, e2⟩ := itoa_numsW _ _ h1
          constructor
          · rw [Rc.text, Rc.words, hn, hd, hc, e1, hexW_byW h2, hexW_byW h3]
            have e : (wordsL s).take 11 ++ [(wordsL s).getD 11 [], (wordsL s).getD 12 []] = wordsL s := by
              generalize wordsL s = ws at hl
              match ws, hl with
              | [a, b, c, d, e, f, g, h, i, j, k, l, m], _ => rfl
            rw [e, join_wordsL]
          · rw [← hn] at e2
            simp only [Rc.nums, List.mem_cons, List.not_mem_nil, or_false, forall_eq_or_imp, forall_eq] at e2
            obtain ⟨h1, h2, h3, h4, h5, h6, h7, h8, h9, h10, h11⟩ := e2
            exact ⟨h1, h2, h3, h4, ⟨h5, h6, h7, h8, h9, h10⟩, h11⟩
  · cases h

/-- unlike records have unlike texts -/
theorem text_inj {a b : Rc} (ha : a.ints) (hb : b.ints) : a.text = b.text ↔ a = b := by
  constructor
  · intro h
    have := read_text ha
    rw [h, read_text hb] at this
    injection this with this
    exact this.symm
  · rintro rfl; rfl

theorem words_len (r : Rc) (h : r.ints) : r.text.length ≤ 300 + 2 * r.d.length + 2 * r.c.length := by
  have hi := Rc.ints_nums h
  have g : ∀ l : List Int, (∀ n ∈ l, I64 n) → Lib.lens (l.map Lib.itoa) ≤ 21 * l.length := by
    intro l
    induction l with
    | nil => intro _; simp [Lib.lens]
    | cons n l ih =>
      intro hl
      have h1 := Lib.itoa_length_le n (hl n (by simp)).1 (hl n (by simp)).2
      have h2 := ih (fun m hm => hl m (List.mem_cons_of_mem _ hm))
      simp only [Lib.lens, List.map_cons, List.sum_cons, List.length_cons] at h2 ⊢
      omega
  have h1 := g _ hi
  have e : r.words = Lib.itoa r.k :: ([r.p, r.n, r.y, r.h.F, r.h.Q, r.h.T, r.h.L, r.h.B, r.h.K, r.id].map Lib.itoa ++ [hexW r.d, hexW r.c]) := rfl
  have h2 := hexL_len r.d
  have h3 := hexL_len r.c
  rw [Rc.text, e, Lib.join_cons, List.length_append, Lib.joinTail_length]
  simp only [Lib.lens, Rc.nums, hexW, List.map_cons, List.map_nil, List.map_append, List.sum_append, List.sum_cons, List.sum_nil, List.length_cons, List.length_nil, List.length_append, h2, h3] at h1 ⊢
  omega

theorem uses_all {k : Int} {u : List UInt8} (h : usesL k = some u) : u ∈ usesT.map Prod.snd := by
  unfold usesL at h
  cases hf : usesT.find? (fun p => p.1 == k) with
  | none => rw [hf] at h; cases h
  | some q =>
    rw [hf] at h
    simp only [Option.map_some, Option.some.injEq] at h
    subst h
    exact List.mem_map_of_mem (List.mem_of_find?_eq_some hf)

theorem uses_head {k : Int} {u : List UInt8} (h : usesL k = some u) : (hasB u 83 = true → hasB u 72 = true) ∧ (hasB u 67 = true → hasB u 72 = true) := by
  have := uses_all h
  revert this
  generalize u = v
  revert v
  decide

theorem chkP_zero {B K : Int} (h : chkP B K = 0) : 1 ≤ B ∧ B ≤ 360 ∧ 1 ≤ K ∧ K ≤ 16 := by
  unfold chkP at h
  split at h
  · simp at h
  · omega

theorem hdCode_zero {h : Hd} (e : hdCode h = 0) : chkP h.B h.K = 0 := by
  unfold hdCode at e
  split at e
  · simp at e
  · split at e
    · simp at e
    · exact e

theorem chkS_zero {B K id : Int} {n : Nat} (h : chkS B K id n = 0) : chkP B K = 0 ∧ (n : Int) = K := by
  unfold chkS at h
  split at h
  · rename_i hn; exact absurd h hn
  · split at h
    · simp at h
    · split at h
      · simp at h
      · rename_i h1 h2 h3
        exact ⟨by simpa using h1, by simpa using h3⟩

/-- a record that Check takes is short -/
theorem code_short {r : Rc} (h : r.code = 0) : r.d.length ≤ 16 ∧ r.c.length ≤ 360 := by
  obtain ⟨k, p, n, y, hd, id, d, c⟩ := r
  simp only [Rc.code] at h ⊢
  generalize d.length = dn at h ⊢
  generalize c.length = cn at h ⊢
  clear d c
  unfold recCode at h
  cases hu : usesL k with
  | none => rw [hu] at h; simp at h
  | some u =>
    rw [hu] at h
    simp only at h
    obtain ⟨g1, g2⟩ := uses_head hu
    split at h
    · rename_i hf
      simp only [formB, Bool.and_eq_true, Bool.or_eq_true, beq_iff_eq] at hf
      obtain ⟨⟨⟨⟨⟨f1, f2⟩, f3⟩, f4⟩, f5⟩, f6⟩ := hf
      simp only [restCode] at h
      split at h
      · simp at h
      · generalize he1 : (if hasB u 72 = true then hdCode hd else 0) = e1 at h
        generalize he2 : (if e1 = 0 ∧ hasB u 83 = true then chkS hd.B hd.K id dn else e1) = e2 at h
        have h2 : e2 = 0 := by
          split at h
          · simp at h
          · exact h
        have h3 : ¬ (hasB u 67 = true ∧ (cn : Int) ≠ hd.B) := by
          intro hh
          rw [if_pos ⟨h2, hh⟩] at h
          simp at h
        have h1 : e1 = 0 := by
          rw [h2] at he2
          split at he2
          · rename_i hh; exact hh.1
          · exact he2
        have hp : hasB u 72 = true → chkP hd.B hd.K = 0 := by
          intro hh
          rw [if_pos hh, h1] at he1
          exact hdCode_zero he1
        constructor
        · rcases f5 with f5 | f5
          · rw [h2, if_pos ⟨h1, f5⟩] at he2
            obtain ⟨a, b⟩ := chkS_zero he2
            have := chkP_zero a
            omega
          · omega
        · rcases f6 with f6 | f6
          · have := chkP_zero (hp (g2 f6))
            have : (cn : Int) = hd.B := Classical.byContradiction fun hh => h3 ⟨f6, hh⟩
            omega
          · omega
    · simp at h

theorem text_short {r : Rc} (hi : r.ints) (h : r.code = 0) : r.text.length ≤ 60000 := by
  have h1 := words_len r hi
  have h2 := code_short h
  omega

end Go.Proofs.YtcpnbkgkknlocaaDoor
