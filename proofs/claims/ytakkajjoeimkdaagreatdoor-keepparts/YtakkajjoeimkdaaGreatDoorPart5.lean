import Derived.Test.YtakkajjoeimkdaaGreatDoorPart1
import Derived.Test.YtakkajjoeimkdaaGreatDoorPart4
import Derived.Test.YtakkajjoeimkdaaGreatDoorPart3
import Derived.Test.YtakkajjoeimkdaaGreatDoorRows
import Derived.BigQuiet
import Derived.Deep.QuietTactic
import Derived.Deep.RegionHeld3
import Derived.Deep.CutBlock
import Derived.Deep.RegionWith
import Derived.Shelf.Abstract
import Derived.Lib.RabinKarpLaws
import Derived.Deep.AppendLies
import Derived.Deep.RegionLaw
import Derived.Deep.RegionHeldLaw
namespace Go.Proofs.YtakkajjoeimkdaaGreatDoor
open Go.RowKit
set_option linter.unusedVariables false
set_option linter.unusedSimpArgs false

def recCode (k p n y : Int) (h : Hd) (id : Int) (dn cn : Nat) : Int :=
 match usesL k with
 | none => 4
 | some u => if formB u p n y h id dn cn = true then restCode u p n y h id dn cn else 4

structure Rc where
 k : Int
 p : Int
 n : Int
 y : Int
 h : Hd
 id : Int
 d : List UInt8
 c : List UInt8
 deriving DecidableEq

def Rc.code (r : Rc) : Int := recCode r.k r.p r.n r.y r.h r.id r.d.length r.c.length

def Rc.ints (r : Rc) : Prop := I64 r.k ∧ I64 r.p ∧ I64 r.n ∧ I64 r.y ∧ r.h.ok ∧ I64 r.id

def Rc.nums (r : Rc) : List Int := [r.k, r.p, r.n, r.y, r.h.F, r.h.Q, r.h.T, r.h.L, r.h.B, r.h.K, r.id]

def Rc.words (r : Rc) : List (List UInt8) := r.nums.map Lib.itoa ++ [hexW r.d, hexW r.c]

def Rc.text (r : Rc) : List UInt8 := Lib.join r.words [32]

def rc0 : Rc := ⟨0, 0, 0, 0, ⟨0, 0, 0, 0, 0, 0⟩, 0, [], []⟩

def recOf (l : List Int) (d c : List UInt8) : Rc :=
 ⟨l.getD 0 0, l.getD 1 0, l.getD 2 0, l.getD 3 0, ⟨l.getD 4 0, l.getD 5 0, l.getD 6 0, l.getD 7 0, l.getD 8 0, l.getD 9 0⟩, l.getD 10 0, d, c⟩

def numsW : List (List UInt8) → Option (List Int)
 | [] => some []
 | x :: r => match numW x with
  | none => none
  | some v => (numsW r).map (v :: ·)

def readL (s : List UInt8) : Option Rc :=
 if (wordsL s).length = 13 then
  match numsW ((wordsL s).take 11), byW ((wordsL s).getD 11 []), byW ((wordsL s).getD 12 []) with
  | some l, some d, some c => some (recOf l d c)
  | _, _, _ => none
 else none

theorem numsW_append : ∀ (a b : List (List UInt8)) (l : List Int), numsW a = some l → numsW (a ++ b) = (numsW b).map (l ++ ·)
 | [], b, l, h => by
  simp [numsW] at h
  subst h
  rw [List.nil_append]
  cases numsW b <;> rfl
 | x :: r, b, l, h => by
  rw [numsW] at h
  rw [List.cons_append, numsW]
  cases hx : numW x with
  | none => rw [hx] at h; cases h
  | some v =>
   rw [hx] at h
   simp only at h ⊢
   cases hr : numsW r with
   | none => rw [hr] at h; cases h
   | some m =>
    rw [hr] at h
    simp only [Option.map_some, Option.some.injEq] at h
    subst h
    rw [numsW_append r b m hr]
    cases numsW b <;> rfl

theorem numsW_none : ∀ (a b : List (List UInt8)), numsW a = none → numsW (a ++ b) = none
 | [], b, h => by simp [numsW] at h
 | x :: r, b, h => by
  rw [numsW] at h
  rw [List.cons_append, numsW]
  cases hx : numW x with
  | none => rfl
  | some v =>
   rw [hx] at h
   simp only at h ⊢
   cases hr : numsW r with
   | none => rw [numsW_none r b hr]; rfl
   | some m => rw [hr] at h; cases h

theorem numsW_itoa : ∀ (l : List Int), (∀ n ∈ l, I64 n) → numsW (l.map Lib.itoa) = some l
 | [], _ => rfl
 | n :: r, h => by
  have hn := h n (by simp)
  rw [List.map_cons, numsW, numW_itoa n hn.1 hn.2, numsW_itoa r (fun m hm => h m (List.mem_cons_of_mem _ hm))]
  rfl

theorem itoa_numsW : ∀ (a : List (List UInt8)) (l : List Int), numsW a = some l → l.map Lib.itoa = a ∧ (∀ n ∈ l, I64 n)
 | [], l, h => by simp [numsW] at h; subst h; simp
 | x :: r, l, h => by
  rw [numsW] at h
  cases hx : numW x with
  | none => rw [hx] at h; cases h
  | some v =>
   rw [hx] at h
   simp only at h
   cases hr : numsW r with
   | none => rw [hr] at h; cases h
   | some m =>
    rw [hr] at h
    simp only [Option.map_some, Option.some.injEq] at h
    subst h
    obtain ⟨h1, h2⟩ := itoa_numsW r m hr
    obtain ⟨h3, h4⟩ := numW_back hx
    refine ⟨by rw [List.map_cons, h1, h3], ?_⟩
    intro n hn
    rcases List.mem_cons.1 hn with rfl | hn
    ·exact h4
    ·exact h2 n hn

theorem numsW_len {a : List (List UInt8)} {l : List Int} (h : numsW a = some l) : l.length = a.length := by
 have := congrArg List.length (itoa_numsW a l h).1
 simpa using this

theorem Rc.ints_nums {r : Rc} (h : r.ints) : ∀ n ∈ r.nums, I64 n := by
 obtain ⟨h1, h2, h3, h4, ⟨h5, h6, h7, h8, h9, h10⟩, h11⟩ := h
 intro n hn
 simp only [Rc.nums, List.mem_cons, List.not_mem_nil, or_false] at hn
 rcases hn with rfl | rfl | rfl | rfl | rfl | rfl | rfl | rfl | rfl | rfl | rfl <;> assumption

theorem recOf_nums (r : Rc) : recOf r.nums r.d r.c = r := by
 obtain ⟨k, p, n, y, ⟨F, Q, T, L, B, K⟩, id, d, c⟩ := r
 rfl

theorem words_text (r : Rc) : wordsL r.text = r.words := by
 refine wordsL_join _ (by simp [Rc.words]) ?_
 intro x hx
 simp only [Rc.words, List.mem_append, List.mem_map, List.mem_cons, List.not_mem_nil, or_false] at hx
 rcases hx with ⟨n, _, rfl⟩ | rfl | rfl
 ·exact itoa_free n
 ·exact hexW_free _
 ·exact hexW_free _

theorem read_text {r : Rc} (h : r.ints) : readL r.text = some r := by
 have h1 : numsW (r.nums.map Lib.itoa) = some r.nums := numsW_itoa _ (Rc.ints_nums h)
 have h2 : r.words.take 11 = r.nums.map Lib.itoa := rfl
 have h3 : r.words.getD 11 [] = hexW r.d := rfl
 have h4 : r.words.getD 12 [] = hexW r.c := rfl
 rw [readL, words_text, if_pos (by rfl), h2, h3, h4, h1, byW_hexW, byW_hexW]
 simp only [recOf_nums]

theorem eleven {l : List Int} (h : l.length = 11) (d c : List UInt8) : (recOf l d c).nums = l := by
 match l, h with
 | [a, b, c, d, e, f, g, h, i, j, k], _ => rfl

theorem text_read {s : List UInt8} {r : Rc} (h : readL s = some r) : r.text = s ∧ r.ints := by
 unfold readL at h
 split at h
 ·rename_i hl
  cases h1 : numsW ((wordsL s).take 11) with
  | none => rw [h1] at h; cases h
  | some l =>
   cases h2 : byW ((wordsL s).getD 11 []) with
   | none => rw [h1, h2] at h; cases h
   | some d =>
    cases h3 : byW ((wordsL s).getD 12 []) with
    | none => rw [h1, h2, h3] at h; cases h
    | some c =>
     rw [h1, h2, h3] at h
     simp only [Option.some.injEq] at h
     have hll : l.length = 11 := by rw [numsW_len h1, List.length_take, hl]; rfl
     have hn := eleven hll d c
     rw [h] at hn
     have hd : r.d = d := by rw [← h]; rfl
     have hc : r.c = c := by rw [← h]; rfl
     obtain ⟨e1, e2⟩ := itoa_numsW _ _ h1
     constructor
     ·rw [Rc.text, Rc.words, hn, hd, hc, e1, hexW_byW h2, hexW_byW h3]
      have e : (wordsL s).take 11 ++ [(wordsL s).getD 11 [], (wordsL s).getD 12 []] = wordsL s := by
       generalize wordsL s = ws at hl
       match ws, hl with
       | [a, b, c, d, e, f, g, h, i, j, k, l, m], _ => rfl
      rw [e, join_wordsL]
     ·rw [← hn] at e2
      simp only [Rc.nums, List.mem_cons, List.not_mem_nil, or_false, forall_eq_or_imp, forall_eq] at e2
      obtain ⟨h1, h2, h3, h4, h5, h6, h7, h8, h9, h10, h11⟩ := e2
      exact ⟨h1, h2, h3, h4, ⟨h5, h6, h7, h8, h9, h10⟩, h11⟩
 ·cases h

theorem words_len (r : Rc) (h : r.ints) : r.text.length ≤ 300 + 2 * r.d.length + 2 * r.c.length := by
 have hi := Rc.ints_nums h
 have g : ∀ l : List Int, (∀ n ∈ l, I64 n) → Lib.lens (l.map Lib.itoa) ≤ 21 * l.length := by
  intro l
  induction l with
  | nil => intro _; simp [Lib.lens]
  | cons n l ih =>
   intro hl
   have h1 := Lib.itoa_length_le n (hl n (by simp)).1 (hl n (by simp)).2
   have h2 := ih (fun m hm => hl m (List.mem_cons_of_mem _ hm))
   simp only [Lib.lens, List.map_cons, List.sum_cons, List.length_cons] at h2 ⊢
   omega
 have h1 := g _ hi
 have e : r.words = Lib.itoa r.k :: ([r.p, r.n, r.y, r.h.F, r.h.Q, r.h.T, r.h.L, r.h.B, r.h.K, r.id].map Lib.itoa ++ [hexW r.d, hexW r.c]) := rfl
 have h2 := hexL_len r.d
 have h3 := hexL_len r.c
 rw [Rc.text, e, Lib.join_cons, List.length_append, Lib.joinTail_length]
 simp only [Lib.lens, Rc.nums, hexW, List.map_cons, List.map_nil, List.map_append, List.sum_append, List.sum_cons, List.sum_nil, List.length_cons, List.length_nil, List.length_append, h2, h3] at h1 ⊢
 omega

theorem uses_all {k : Int} {u : List UInt8} (h : usesL k = some u) : u ∈ usesT.map Prod.snd := by
 unfold usesL at h
 cases hf : usesT.find? (fun p => p.1 == k) with
 | none => rw [hf] at h; cases h
 | some q =>
  rw [hf] at h
  simp only [Option.map_some, Option.some.injEq] at h
  subst h
  exact List.mem_map_of_mem (List.mem_of_find?_eq_some hf)

theorem uses_head {k : Int} {u : List UInt8} (h : usesL k = some u) : (hasB u 83 = true → hasB u 72 = true) ∧ (hasB u 67 = true → hasB u 72 = true) := by
 have := uses_all h
 revert this
 generalize u = v
 revert v
 decide

theorem hdCode_zero {h : Hd} (e : hdCode h = 0) : chkP h.B h.K = 0 := by
 unfold hdCode at e
 split at e
 ·simp at e
 ·split at e
  ·simp at e
  ·exact e

theorem chkS_zeroN {B K id : Int} {n : Nat} (h : chkS B K id n = 0) : chkP B K = 0 ∧ (n : Int) = K := by
 unfold chkS at h
 split at h
 ·rename_i hn; exact absurd h hn
 ·split at h
  ·simp at h
  ·split at h
   ·simp at h
   ·rename_i h1 h2 h3
    exact ⟨by simpa using h1, by simpa using h3⟩

theorem code_short {r : Rc} (h : r.code = 0) : r.d.length ≤ 16 ∧ r.c.length ≤ 360 := by
 obtain ⟨k, p, n, y, hd, id, d, c⟩ := r
 simp only [Rc.code] at h ⊢
 generalize d.length = dn at h ⊢
 generalize c.length = cn at h ⊢
 clear d c
 unfold recCode at h
 cases hu : usesL k with
 | none => rw [hu] at h; simp at h
 | some u =>
  rw [hu] at h
  simp only at h
  obtain ⟨g1, g2⟩ := uses_head hu
  split at h
  ·rename_i hf
   simp only [formB, Bool.and_eq_true, Bool.or_eq_true, beq_iff_eq] at hf
   obtain ⟨⟨⟨⟨⟨f1, f2⟩, f3⟩, f4⟩, f5⟩, f6⟩ := hf
   simp only [restCode] at h
   split at h
   ·simp at h
   ·generalize he1 : (if hasB u 72 = true then hdCode hd else 0) = e1 at h
    generalize he2 : (if e1 = 0 ∧ hasB u 83 = true then chkS hd.B hd.K id dn else e1) = e2 at h
    have h2 : e2 = 0 := by
     split at h
     ·simp at h
     ·exact h
    have h3 : ¬ (hasB u 67 = true ∧ (cn : Int) ≠ hd.B) := by
     intro hh
     rw [if_pos ⟨h2, hh⟩] at h
     simp at h
    have h1 : e1 = 0 := by
     rw [h2] at he2
     split at he2
     ·rename_i hh; exact hh.1
     ·exact he2
    have hp : hasB u 72 = true → chkP hd.B hd.K = 0 := by
     intro hh
     rw [if_pos hh, h1] at he1
     exact hdCode_zero he1
    constructor
    ·rcases f5 with f5 | f5
     ·rw [h2, if_pos ⟨h1, f5⟩] at he2
      obtain ⟨a, b⟩ := chkS_zeroN he2
      have := chkP_zero a
      omega
     ·omega
    ·rcases f6 with f6 | f6
     ·have := chkP_zero (hp (g2 f6))
      have : (cn : Int) = hd.B := Classical.byContradiction fun hh => h3 ⟨f6, hh⟩
      omega
     ·omega
  ·simp at h

theorem text_short {r : Rc} (hi : r.ints) (h : r.code = 0) : r.text.length ≤ 60000 := by
 have h1 := words_len r hi
 have h2 := code_short h
 omega

def inK (k : Int) (l : List Int) : Bool := l.any (· == k)

def needless (k p n y : Int) (h : Hd) (id : Int) (dn cn : Nat) : Bool :=
 (!(p == 0) && !inK k [4, 6]) || (!(n == 0) && !inK k [1, 4, 6, 8]) || (!(y == 0) && !inK k [4, 5, 6]) || (!decide (h = ⟨0, 0, 0, 0, 0, 0⟩) && inK k [8]) || ((!(id == 0) || decide ((0 : Int) < dn)) && !inK k [2]) || (decide ((0 : Int) < cn) && !inK k [1, 3])

theorem uses_none {k : Int} : usesL k = none ↔ ¬ (1 ≤ k ∧ k ≤ 8) := by
 constructor
 ·intro h hk
  have : k = 1 ∨ k = 2 ∨ k = 3 ∨ k = 4 ∨ k = 5 ∨ k = 6 ∨ k = 7 ∨ k = 8 := by omega
  rcases this with rfl | rfl | rfl | rfl | rfl | rfl | rfl | rfl <;> cases h
 ·intro hk
  have h1 : ∀ p ∈ usesT, ¬ (p.1 == k) = true := by
   intro p hp
   simp only [usesT, List.mem_cons, List.not_mem_nil, or_false] at hp
   rcases hp with rfl | rfl | rfl | rfl | rfl | rfl | rfl | rfl <;> simp <;> omega
  simp only [usesL, List.find?_eq_none.2 h1, Option.map_none]

theorem uses_eight {k : Int} {u : List UInt8} (h : usesL k = some u) : (k = 1 ∧ u = [78, 72, 67]) ∨ (k = 2 ∧ u = [72, 83]) ∨ (k = 3 ∧ u = [72, 67]) ∨ (k = 4 ∧ u = [80, 78, 84, 72]) ∨ (k = 5 ∧ u = [84, 72]) ∨ (k = 6 ∧ u = [80, 78, 84, 72]) ∨ (k = 7 ∧ u = [72]) ∨ (k = 8 ∧ u = [78]) := by
 by_cases hk : 1 ≤ k ∧ k ≤ 8
 ·have : k = 1 ∨ k = 2 ∨ k = 3 ∨ k = 4 ∨ k = 5 ∨ k = 6 ∨ k = 7 ∨ k = 8 := by omega
  rcases this with rfl | rfl | rfl | rfl | rfl | rfl | rfl | rfl <;> (simp only [usesL, usesT] at h; injection h with h; subst h; simp)
 ·rw [uses_none.2 hk] at h; cases h

theorem needless_form {k p n y : Int} {h : Hd} {id : Int} {dn cn : Nat} {u : List UInt8} (hu : usesL k = some u) : needless k p n y h id dn cn = !formB u p n y h id dn cn := by
 have hd : decide ((0 : Int) < dn) = !((dn : Int) == 0) := by
  by_cases e : dn = 0
  ·subst e; rfl
  ·have h1 : ¬ (dn : Int) = 0 := by omega
   have h2 : (0 : Int) < dn := by omega
   rw [decide_eq_true h2, beq_eq_false_iff_ne.2 h1]; rfl
 have hc : decide ((0 : Int) < cn) = !((cn : Int) == 0) := by
  by_cases e : cn = 0
  ·subst e; rfl
  ·have h1 : ¬ (cn : Int) = 0 := by omega
   have h2 : (0 : Int) < cn := by omega
   rw [decide_eq_true h2, beq_eq_false_iff_ne.2 h1]; rfl
 have b1 : ∀ a : UInt8, a ∈ ([80, 78, 84, 72, 83, 67] : List UInt8) → True := fun _ _ => trivial
 simp only [needless, formB, hd, hc]
 generalize (p == 0) = z1
 generalize (n == 0) = z2
 generalize (y == 0) = z3
 generalize decide (h = ⟨0, 0, 0, 0, 0, 0⟩) = z4
 generalize (id == 0) = z5
 generalize ((dn : Int) == 0) = z6
 generalize ((cn : Int) == 0) = z7
 clear hd hc b1
 rcases uses_eight hu with ⟨rfl, rfl⟩ | ⟨rfl, rfl⟩ | ⟨rfl, rfl⟩ | ⟨rfl, rfl⟩ | ⟨rfl, rfl⟩ | ⟨rfl, rfl⟩ | ⟨rfl, rfl⟩ | ⟨rfl, rfl⟩ <;> (clear hu; revert z1 z2 z3 z4 z5 z6 z7; decide)

def ownCode (k p n y : Int) (h : Hd) (id : Int) (dn cn : Nat) : Int :=
 if ¬ (1 ≤ k ∧ k ≤ 8) then 4
 else if needless k p n y h id dn cn = true then 4
 else if ¬ ((0 ≤ p ∧ p ≤ 3) ∧ (0 ≤ y ∧ y ≤ 9999) ∧ (0 ≤ n ∧ n ≤ 1000000)) then 3
 else if k = 8 then 0
 else if hdCode h ≠ 0 then hdCode h
 else if k = 2 then chkS h.B h.K id dn
 else if (k = 1 ∨ k = 3) ∧ (cn : Int) ≠ h.B then 4
 else 0

theorem ownCode_rec (k p n y : Int) (h : Hd) (id : Int) (dn cn : Nat) : ownCode k p n y h id dn cn = recCode k p n y h id dn cn := by
 unfold ownCode recCode
 cases hu : usesL k with
 | none => rw [if_pos (uses_none.1 hu)]
 | some u =>
  have hk : 1 ≤ k ∧ k ≤ 8 := Classical.byContradiction fun hn => by rw [uses_none.2 hn] at hu; cases hu
  rw [if_neg (by simpa using hk), needless_form hu]
  simp only
  by_cases hf : formB u p n y h id dn cn = true
  ·rw [if_neg (by simp [hf]), if_pos hf]
   simp only [restCode]
   by_cases hr : (0 ≤ p ∧ p ≤ 3) ∧ (0 ≤ y ∧ y ≤ 9999) ∧ (0 ≤ n ∧ n ≤ 1000000)
   ·have hr' : ¬ ¬ ((0 ≤ p ∧ p ≤ 3) ∧ (0 ≤ y ∧ y ≤ 9999) ∧ (0 ≤ n ∧ n ≤ 1000000)) := fun hh => hh hr
    rw [if_neg hr', if_neg hr']
    generalize hdCode h = e
    generalize chkS h.B h.K id dn = s
    by_cases he : e = 0
    ·subst he
     rcases uses_eight hu with ⟨rfl, rfl⟩ | ⟨rfl, rfl⟩ | ⟨rfl, rfl⟩ | ⟨rfl, rfl⟩ | ⟨rfl, rfl⟩ | ⟨rfl, rfl⟩ | ⟨rfl, rfl⟩ | ⟨rfl, rfl⟩ <;> simp [show hasB [78, 72, 67] 72 = true by decide, show hasB [78, 72, 67] 83 = false by decide, show hasB [78, 72, 67] 67 = true by decide, show hasB [72, 83] 72 = true by decide, show hasB [72, 83] 83 = true by decide, show hasB [72, 83] 67 = false by decide, show hasB [72, 67] 72 = true by decide, show hasB [72, 67] 83 = false by decide, show hasB [72, 67] 67 = true by decide, show hasB [80, 78, 84, 72] 72 = true by decide, show hasB [80, 78, 84, 72] 83 = false by decide, show hasB [80, 78, 84, 72] 67 = false by decide, show hasB [84, 72] 72 = true by decide, show hasB [84, 72] 83 = false by decide, show hasB [84, 72] 67 = false by decide, show hasB [72] 72 = true by decide, show hasB [72] 83 = false by decide, show hasB [72] 67 = false by decide, show hasB [78] 72 = false by decide, show hasB [78] 83 = false by decide, show hasB [78] 67 = false by decide]
    ·rcases uses_eight hu with ⟨rfl, rfl⟩ | ⟨rfl, rfl⟩ | ⟨rfl, rfl⟩ | ⟨rfl, rfl⟩ | ⟨rfl, rfl⟩ | ⟨rfl, rfl⟩ | ⟨rfl, rfl⟩ | ⟨rfl, rfl⟩ <;> simp [he, show hasB [78, 72, 67] 72 = true by decide, show hasB [78, 72, 67] 83 = false by decide, show hasB [78, 72, 67] 67 = true by decide, show hasB [72, 83] 72 = true by decide, show hasB [72, 83] 83 = true by decide, show hasB [72, 83] 67 = false by decide, show hasB [72, 67] 72 = true by decide, show hasB [72, 67] 83 = false by decide, show hasB [72, 67] 67 = true by decide, show hasB [80, 78, 84, 72] 72 = true by decide, show hasB [80, 78, 84, 72] 83 = false by decide, show hasB [80, 78, 84, 72] 67 = false by decide, show hasB [84, 72] 72 = true by decide, show hasB [84, 72] 83 = false by decide, show hasB [84, 72] 67 = false by decide, show hasB [72] 72 = true by decide, show hasB [72] 83 = false by decide, show hasB [72] 67 = false by decide, show hasB [78] 72 = false by decide, show hasB [78] 83 = false by decide, show hasB [78] 67 = false by decide]
   ·rw [if_pos hr, if_pos hr]
  ·rw [if_pos (by simpa using hf), if_neg hf]

structure MRow where
 ha : Option Addr
 hc : Nat
 h : List Bool
 da : Option Addr
 dc : Nat
 d : List UInt8

def MRow.hv (r : MRow) : Value := .slice r.ha r.h.length r.hc
def MRow.dv (r : MRow) : Value := .slice r.da r.d.length r.dc
def MRow.val (r : MRow) : Value := .agg #[r.hv, r.dv]

def RowIn (w : World) (r : MRow) : Prop := Lies w r.ha (r.h.map Value.bool) ∧ Lies w r.da (bs r.d) ∧ r.h.length ≤ maxLen ∧ r.d.length ≤ maxLen

theorem RowIn.below {w w' : World} {r : MRow} (h : RowIn w r) (hb : Below w.heap.size w w') : RowIn w' r := ⟨h.1.below hb (Nat.le_refl _), h.2.1.below hb (Nat.le_refl _), h.2.2⟩

def rowCells (l : List MRow) : List Value := l.flatMap fun r => [r.hv, r.dv]

theorem rowCells_length (l : List MRow) : (rowCells l).length = 2 * l.length := by
 induction l with
 | nil => rfl
 | cons r l ih => simp only [rowCells, List.flatMap_cons, List.length_append, List.length_cons, List.length_nil] at ih ⊢; omega

theorem rowCells_append (l m : List MRow) : rowCells (l ++ m) = rowCells l ++ rowCells m := by simp [rowCells]

theorem rowCells_get {l : List MRow} : ∀ {j : Nat} (hj : j < l.length), (rowCells l)[2 * j]? = some l[j].hv ∧ (rowCells l)[2 * j + 1]? = some l[j].dv := by
 induction l with
 | nil => intro j hj; simp at hj
 | cons r l ih =>
  intro j hj
  have e : rowCells (r :: l) = r.hv :: r.dv :: rowCells l := rfl
  cases j with
  | zero => rw [e]; exact ⟨rfl, rfl⟩
  | succ j =>
   have := ih (j := j) (by simpa using hj)
   rw [e, show 2 * (j + 1) = 2 * j + 1 + 1 by omega]
   simpa using this

def firstI (h : List Bool) : Int := if h.findIdx id < h.length then (h.findIdx id : Nat) else -1

theorem firstI_at {h : List Bool} {k : Nat} (hk : k < h.length) (ht : h[k] = true) (hn : ∀ j (hj : j < k), h[j]'(by omega) = false) : firstI h = k := by
 have e : h.findIdx id = k := by
  rw [List.findIdx_eq hk]
  exact ⟨by simpa using ht, fun j hj => by simpa using hn j hj⟩
 rw [firstI, e, if_pos hk]

theorem firstI_none {h : List Bool} (hn : ∀ j (hj : j < h.length), h[j] = false) : firstI h = -1 := by
 rw [firstI, if_neg]
 intro hl
 have := List.findIdx_getElem (w := hl)
 rw [hn _ hl] at this
 simp at this





structure MSys where
 B : Int
 K : Int
 ra : Option Addr
 rc : Nat
 rows : List MRow

def SysIn (w : World) (s : MSys) : Prop := Lies w s.ra (rowCells s.rows) ∧ (∀ r ∈ s.rows, RowIn w r) ∧ s.rows.length ≤ maxLen

theorem SysIn.below {w w' : World} {s : MSys} (h : SysIn w s) (hb : Below w.heap.size w w') : SysIn w' s := ⟨h.1.below hb (Nat.le_refl _), fun r hr => (h.2.1 r hr).below hb, h.2.2⟩

def MRow.says (r : MRow) : List Bool × List UInt8 := (r.h, r.d)

theorem row_at {w : World} {b o : Nat} {l : List MRow} (h : Lies w (some ⟨b, o, none⟩) (rowCells l)) {j : Nat} (hj : j < l.length) : w.cell? ⟨b, o + j * 2, none⟩ = some l[j].hv ∧ w.cell? ⟨b, o + j * 2 + 1, none⟩ = some l[j].dv := by
 have h0 := h.at (rowCells_get hj).1
 have h1 := h.at (rowCells_get hj).2
 rw [Nat.mul_comm] at h0
 rw [Nat.mul_comm, ← Nat.add_assoc] at h1
 exact ⟨h0, h1⟩

theorem cellC {w w' : World} {b o : Nat} {v : Value} (h : w.cell? ⟨b, o, none⟩ = some v) (hb : Below w.heap.size w w') : w'.cell? ⟨b, o, none⟩ = some v := by
 have := World.block_lt_of_cell? w _ h
 rw [(bcell hb).1 b o this]
 exact h

abbrev LRow := List Bool × List UInt8

def LRow.v (r : LRow) : V := ⟨fun k => r.1.getD k false, fun t => r.2.getD t 0⟩

def Fits (n k : Nat) (r : LRow) : Prop := r.1.length = n ∧ r.2.length = k

theorem LRow.v_has {r : LRow} {k : Nat} (hk : k < r.1.length) : (LRow.v r).has k = r.1[k] := by
 show r.1.getD k false = _
 rw [List.getD_eq_getElem?_getD, List.getElem?_eq_getElem hk]
 rfl

theorem LRow.v_of {n k : Nat} {r : LRow} (h : Fits n k r) : Of n (LRow.v r) := fun j hj => by
 show r.1.getD j false = false
 rw [List.getD_eq_getElem?_getD, List.getElem?_eq_none (by rw [h.1]; exact hj)]
 rfl

theorem LRow.v_inj {n k : Nat} {r s : LRow} (hr : Fits n k r) (hs : Fits n k s) (h : LRow.v r = LRow.v s) : r = s := by
 obtain ⟨a, b⟩ := r
 obtain ⟨c, d⟩ := s
 obtain ⟨h1, h2⟩ := hr
 obtain ⟨h3, h4⟩ := hs
 simp only at h1 h2 h3 h4
 have e1 : a = c := by
  apply List.ext_getElem (by omega)
  intro i p q
  have := congrArg (fun v => v.has i) h
  simp only [LRow.v, List.getD_eq_getElem?_getD, List.getElem?_eq_getElem p, List.getElem?_eq_getElem q, Option.getD_some] at this
  exact this
 have e2 : b = d := by
  apply List.ext_getElem (by omega)
  intro i p q
  have := congrArg (fun v => v.dat i) h
  simp only [LRow.v, List.getD_eq_getElem?_getD, List.getElem?_eq_getElem p, List.getElem?_eq_getElem q, Option.getD_some] at this
  exact this
 rw [e1, e2]

theorem rows_inj {n k : Nat} : ∀ {A B : List LRow}, (∀ r ∈ A, Fits n k r) → (∀ r ∈ B, Fits n k r) → A.map LRow.v = B.map LRow.v → A = B := by
 intro A
 induction A with
 | nil => intro B _ _ h; cases B with
  | nil => rfl
  | cons b B => simp at h
 | cons a A ih =>
  intro B hA hB h
  cases B with
  | nil => simp at h
  | cons b B =>
   simp only [List.map_cons, List.cons.injEq] at h
   rw [LRow.v_inj (hA a List.mem_cons_self) (hB b List.mem_cons_self) h.1, ih (fun r hr => hA r (List.mem_cons_of_mem _ hr)) (fun r hr => hB r (List.mem_cons_of_mem _ hr)) h.2]

theorem firstI_range (h : List Bool) : firstI h = -1 ∨ ∃ k : Nat, firstI h = k ∧ k < h.length ∧ h.getD k false = true ∧ ∀ j, j < k → h.getD j false = false := by
 by_cases hl : h.findIdx id < h.length
 ·refine .inr ⟨h.findIdx id, by rw [firstI, if_pos hl], hl, ?_, ?_⟩
  ·have := List.findIdx_getElem (w := hl)
   rw [List.getD_eq_getElem?_getD, List.getElem?_eq_getElem hl]
   simpa using this
  ·intro j hj
   have := List.not_of_lt_findIdx (p := id) (xs := h) (i := j) hj
   rw [List.getD_eq_getElem?_getD, List.getElem?_eq_getElem (by omega)]
   simpa using this
 ·exact .inl (by rw [firstI, if_neg hl])

theorem firstI_lead {r : LRow} {k : Nat} : firstI r.1 = k ↔ Lead (LRow.v r) k := by
 constructor
 ·intro h
  rcases firstI_range r.1 with e | ⟨m, e, h1, h2, h3⟩
  ·omega
  ·have : m = k := by omega
   subst this
   exact ⟨h2, h3⟩
 ·intro h
  rcases firstI_range r.1 with e | ⟨m, e, h1, h2, h3⟩
  ·exfalso
   have hk : k < r.1.length := by
    apply Decidable.byContradiction
    intro hn
    have := h.1
    rw [show (LRow.v r).has k = r.1.getD k false from rfl, List.getD_eq_getElem?_getD, List.getElem?_eq_none (by omega)] at this
    simp at this
   have hl : r.1.findIdx id < r.1.length := List.findIdx_lt_length_of_exists ⟨r.1[k], List.getElem_mem hk, by
    have := h.1
    rw [LRow.v_has hk] at this
    simpa using this⟩
   rw [firstI, if_pos hl] at e
   omega
  ·rw [e]
   have : Lead (LRow.v r) m := ⟨h2, h3⟩
   rw [this.one h]

theorem firstI_no {r : LRow} : firstI r.1 = -1 ↔ None' (LRow.v r) := by
 constructor
 ·intro h j
  rcases Bool.eq_false_or_eq_true ((LRow.v r).has j) with e | e
  ·obtain ⟨m, _, hm⟩ := Lead.of_has e
   have := firstI_lead.2 hm
   omega
  ·exact e
 ·intro h
  rcases firstI_range r.1 with e | ⟨m, e, h1, h2, h3⟩
  ·exact e
  ·have := h m
   rw [show (LRow.v r).has m = r.1.getD m false from rfl, h2] at this
   simp at this

def RowOk (B K : Int) (A : List LRow) (i : Nat) : Prop :=
 (A[i]?.getD ([], [])).1.length = B ∧ (A[i]?.getD ([], [])).2.length = K ∧ 0 ≤ firstI (A[i]?.getD ([], [])).1 ∧ (0 < i → firstI (A[i - 1]?.getD ([], [])).1 < firstI (A[i]?.getD ([], [])).1) ∧
 ∀ j, j < A.length → j ≠ i → (A[j]?.getD ([], [])).1.getD (firstI (A[i]?.getD ([], [])).1).toNat false = false

open Classical in
noncomputable def chkSys (B K : Int) (A : List LRow) : Int :=
 if ¬ (1 ≤ B ∧ B ≤ 24 ∧ 1 ≤ K ∧ K ≤ 16) then 3 else if B < A.length then 2 else if ∀ i, i < A.length → RowOk B K A i then 0 else 4

theorem chkSys_range {B K : Int} {A : List LRow} (h : ¬ (1 ≤ B ∧ B ≤ 24 ∧ 1 ≤ K ∧ K ≤ 16)) : chkSys B K A = 3 := if_pos h
theorem chkSys_many {B K : Int} {A : List LRow} (h : 1 ≤ B ∧ B ≤ 24 ∧ 1 ≤ K ∧ K ≤ 16) (h2 : B < A.length) : chkSys B K A = 2 := by rw [chkSys, if_neg (by simpa using h), if_pos h2]
theorem chkSys_form {B K : Int} {A : List LRow} (h : 1 ≤ B ∧ B ≤ 24 ∧ 1 ≤ K ∧ K ≤ 16) (h2 : ¬ B < A.length) {i : Nat} (hi : i < A.length) (h3 : ¬ RowOk B K A i) : chkSys B K A = 4 := by
 rw [chkSys, if_neg (by simpa using h), if_neg h2, if_neg fun hh => h3 (hh i hi)]
theorem chkSys_ok {B K : Int} {A : List LRow} (h : 1 ≤ B ∧ B ≤ 24 ∧ 1 ≤ K ∧ K ≤ 16) (h2 : ¬ B < A.length) (h3 : ∀ i, i < A.length → RowOk B K A i) : chkSys B K A = 0 := by
 rw [chkSys, if_neg (by simpa using h), if_neg h2, if_pos h3]

structure Right (n k : Nat) (A : List LRow) : Prop where
 n1 : 1 ≤ n
 n2 : n ≤ 24
 k1 : 1 ≤ k
 k2 : k ≤ 16
 fits : ∀ r ∈ A, Fits n k r
 sys : Sys (A.map LRow.v)

theorem Right.of {n k : Nat} {A : List LRow} (h : Right n k A) : ∀ v ∈ A.map LRow.v, Of n v := by
 intro v hv
 obtain ⟨r, hr, rfl⟩ := List.mem_map.1 hv
 exact LRow.v_of (h.fits r hr)

theorem Right.few {n k : Nat} {A : List LRow} (h : Right n k A) : A.length ≤ n := by
 have := h.sys.few h.of
 simpa using this

theorem getD_get {A : List LRow} {i : Nat} (hi : i < A.length) : A[i]?.getD ([], []) = A[i] := by rw [List.getElem?_eq_getElem hi]; rfl

theorem chk_of_right {n k : Nat} {A : List LRow} (h : Right n k A) : chkSys n k A = 0 := by
 have hA := h.few
 have n1 := h.n1
 have n2 := h.n2
 have k1 := h.k1
 have k2 := h.k2
 refine chkSys_ok ⟨by omega, by omega, by omega, by omega⟩ (by omega) ?_
 intro i hi
 have lead : ∀ j (hj : j < A.length), ∃ m : Nat, Lead (LRow.v A[j]) m ∧ firstI A[j].1 = m := by
  intro j hj
  obtain ⟨m, hm⟩ := h.sys.lead _ (List.mem_map_of_mem (List.getElem_mem hj))
  exact ⟨m, hm, firstI_lead.2 hm⟩
 obtain ⟨m, hm, em⟩ := lead i hi
 have hf := h.fits _ (List.getElem_mem hi)
 unfold RowOk
 rw [getD_get hi]
 refine ⟨by rw [hf.1], by rw [hf.2], by omega, ?_, ?_⟩
 ·intro h0
  rw [getD_get (show i - 1 < A.length by omega)]
  have hp := List.pairwise_iff_getElem.1 h.sys.pair (i - 1) i (by simp; omega) (by simpa using hi) (by omega)
  simp only [List.getElem_map] at hp
  obtain ⟨a, b, ha, hb, hab, _⟩ := hp
  have e1 := firstI_lead.2 ha
  have e2 := firstI_lead.2 hb
  omega
 ·intro j hj hne
  rw [getD_get hj, em]
  simp only [Int.toNat_natCast]
  rcases Bool.eq_false_or_eq_true ((LRow.v A[j]).has m) with e | e
  ·exfalso
   have hs := h.sys.apart (List.mem_map_of_mem (List.getElem_mem hi)) (List.mem_map_of_mem (List.getElem_mem hj)) hm e
   rcases Nat.lt_or_gt_of_ne hne with hlt | hlt
   ·have hp := List.pairwise_iff_getElem.1 h.sys.pair j i (by simpa using hj) (by simpa using hi) hlt
    simp only [List.getElem_map] at hp
    rw [hs] at hp
    exact hp.ne
   ·have hp := List.pairwise_iff_getElem.1 h.sys.pair i j (by simpa using hi) (by simpa using hj) hlt
    simp only [List.getElem_map] at hp
    rw [hs] at hp
    exact hp.ne
  ·exact e

end Go.Proofs.YtakkajjoeimkdaaGreatDoor

namespace Go.Proofs.YtakkajjoeimkdaaGreatDoor
open Go.RowKit
set_option linter.unusedVariables false

def Above (w : World) : Type := { w' : World // Below w.heap.size w w' }

def Above.w {w : World} (u : Above w) : World := u.1
theorem Above.below {w : World} (u : Above w) : Below w.heap.size w u.w := u.2

def Above.start (w : World) : Above w := ⟨w, Below.refl _ _⟩

def Above.next {w : World} (u : Above w) {w' : World} (h : Below u.w.heap.size u.w w') : Above w := ⟨w', u.2.trans (h.mono u.2.size)⟩

theorem Above.cell {w : World} {b o : Nat} {v : Value} (h : w.cell? ⟨b, o, none⟩ = some v) (u : Above w) : u.w.cell? ⟨b, o, none⟩ = some v := by
 have := World.block_lt_of_cell? w _ h
 exact ((bcell u.2).1 b o this).trans h

theorem wp_region_above {P : Program} {id : Nat} {Q : Exit → Act → World → Prop} {a : Act} {w : World} {l : List Oper} (hm : P.follows .mixedOrders = true) (hB : Region.lexB .any l.toArray = true)
  (h : wpQuiet P l.toArray (fun w' => ∃ u : Above w, w' = u.w) (fun a' => ∀ w', (∃ u : Above w, w' = u.w) → Q .normal a' w') l a) : (Code.region id l.toArray true).wp P Q a w :=
 wp_region_quiet (C := fun w' => ∃ u : Above w, w' = u.w) hm hB ⟨⟨w.drew, (Below.refl _ _).drew⟩, rfl⟩ (by simpa using h)

theorem Calls.above {P : Program} {f : FuncId} {args : Array Value} {w : World} {u : Above w} {v : Value} (h : Calls P f args u.w fun e w' => e = .returned v ∧ Below u.w.heap.size u.w w') :
  Calls P f args u.w fun e w'' => e = .returned v ∧ ∃ u' : Above w, w'' = u'.w :=
 h.mono fun _ w' ⟨he, hb⟩ => ⟨he, u.next hb, rfl⟩

end Go.Proofs.YtakkajjoeimkdaaGreatDoor

namespace Go.Proofs.YtakkajjoeimkdaaGreatDoor
open Go.RowKit
set_option linter.unusedVariables false
set_option linter.unusedSimpArgs false

def Box3 (w : World) (g : Nat) (x y z : Value) : Prop := w.cell? ⟨g, 0, none⟩ = some x ∧ w.cell? ⟨g, 1, none⟩ = some y ∧ w.cell? ⟨g, 2, none⟩ = some z

theorem Box3.mk (w : World) (x y z : Value) (t : TypeId) : Box3 (w.alloc (.cells #[x, y, z] t)) w.heap.size x y z := by
 have h := Lies.alloc_new w #[x, y, z] t
 exact ⟨h.at (k := 0) rfl, h.at (k := 1) rfl, h.at (k := 2) rfl⟩

theorem Box3.below {w w1 : World} {g : Nat} {x y z : Value} (h : Box3 w g x y z) (hb : Below w.heap.size w w1) : Box3 w1 g x y z := ⟨cellC h.1 hb, cellC h.2.1 hb, cellC h.2.2 hb⟩

theorem Box2.mk (w : World) (x y : Value) (t : TypeId) : (w.alloc (.cells #[x, y] t)).cell? ⟨w.heap.size, 0, none⟩ = some x ∧ (w.alloc (.cells #[x, y] t)).cell? ⟨w.heap.size, 1, none⟩ = some y := by
 have h := Lies.alloc_new w #[x, y] t
 exact ⟨h.at (k := 0) rfl, h.at (k := 1) rfl⟩

def RowPre (n k : Nat) (A : List LRow) (q F : Nat) : Prop :=
 (A[q]?.getD ([], [])).1.length = n ∧ (A[q]?.getD ([], [])).2.length = k ∧ firstI (A[q]?.getD ([], [])).1 = F ∧ (0 < q → firstI (A[q - 1]?.getD ([], [])).1 < firstI (A[q]?.getD ([], [])).1)

theorem RowPre.ok {n k q F : Nat} {A : List LRow} (h : RowPre n k A q F) (ho : ∀ j, j < A.length → j ≠ q → (A[j]?.getD ([], [])).1.getD F false = false) : RowOk n k A q := by
 obtain ⟨a, b, c, d⟩ := h
 refine ⟨by rw [a], by rw [b], by omega, d, ?_⟩
 intro j hj hne
 rw [c]
 exact ho j hj hne

theorem RowPre.not {n k q F j : Nat} {A : List LRow} (h : RowPre n k A q F) (hj : j < A.length) (hne : j ≠ q) (ht : (A[j]?.getD ([], [])).1.getD F false = true) : ¬ RowOk n k A q := by
 obtain ⟨a, b, c, d⟩ := h
 intro ho
 have := ho.2.2.2.2 j hj hne
 rw [c] at this
 simp only [Int.toNat_natCast] at this
 rw [ht] at this
 simp at this

def kSet (l : List (List UInt8)) (r : LRow) : List (List UInt8) := if r.1.count true = 1 then l.set (firstI r.1).toNat r.2 else l

def knownL (n : Nat) (A : List LRow) : List (List UInt8) := A.foldl kSet (List.replicate n [])

theorem kSet_length (l : List (List UInt8)) (r : LRow) : (kSet l r).length = l.length := by
 unfold kSet
 split <;> simp

theorem knownL_snoc (n : Nat) (A : List LRow) (r : LRow) : knownL n (A ++ [r]) = kSet (knownL n A) r := by simp [knownL, List.foldl_append]

theorem knownL_length (n : Nat) (A : List LRow) : (knownL n A).length = n := by
 unfold knownL
 have h : ∀ (A : List LRow) (l : List (List UInt8)), (A.foldl kSet l).length = l.length := by
  intro A
  induction A with
  | nil => intro l; rfl
  | cons r A ih => intro l; rw [List.foldl_cons, ih, kSet_length]
 rw [h, List.length_replicate]

def nilB : Blk := ⟨none, 0, []⟩

def KInv (w wr : World) (g n : Nat) (A : List LRow) : Prop :=
 Below w.heap.size w wr ∧ w.heap.size ≤ g ∧ g < wr.heap.size ∧ ∃ bl : List Blk, bl.length = n ∧ wr.rowIs g 36 n (fun j => (bl[j]?.getD nilB).val) ∧ AllIn w bl ∧ bl.map Blk.l = knownL n A

theorem rowIs_below {w w' : World} {g n : Nat} {t : TypeId} {f : Nat → Value} (h : w.rowIs g t n f) (hb : Below w.heap.size w w') (hg : g < w.heap.size) : w'.rowIs g t n f := by
 unfold World.rowIs at *
 rw [hb.block g hg]
 exact h

theorem KInv.start {w W0 : World} {n : Nat} (hb : Below w.heap.size w W0) : KInv w (W0.alloc (.cells (madeCells #[Value.slice none 0 0] n) 36)) W0.heap.size n [] := by
 refine ⟨hb.alloc hb.size _, hb.size, by simp, List.replicate n nilB, by simp, ?_, ?_, ?_⟩
 ·refine (World.rowIs_made W0 _ n _).congr fun j hj => ?_
  simp [hj, nilB, Blk.val]
 ·intro b hb'
  obtain rfl := List.eq_of_mem_replicate hb'
  exact ⟨Lies.nil _ _, by simp [nilB, maxLen]⟩
 ·simp [knownL, nilB]

theorem KInv.below {w wr w' : World} {g n : Nat} {A : List LRow} (h : KInv w wr g n A) (hb : Below wr.heap.size wr w') : KInv w w' g n A := by
 obtain ⟨h1, h2, h3, bl, h4, h5, h6, h7⟩ := h
 exact ⟨h1.trans (hb.mono h1.size), h2, by have := hb.size; omega, bl, h4, rowIs_below h5 hb h3, h6, h7⟩

theorem KInv.put {w wr : World} {g n F : Nat} {A : List LRow} {r : MRow} (h : KInv w wr g n A) (hc : r.h.count true = 1) (hF : firstI r.h = F) (hr : RowIn w r) :
  KInv w (wr.setCell ⟨g, F, none⟩ r.dv) g n (A ++ [r.says]) := by
 obtain ⟨h1, h2, h3, bl, h4, h5, h6, h7⟩ := h
 have hb : Below w.heap.size w (wr.setCell ⟨g, F, none⟩ r.dv) := h1.setCell (p := ⟨g, F, none⟩) (by simpa using h2) _
 refine ⟨hb, h2, by simpa using h3, bl.set F ⟨r.da, r.dc, r.d⟩, by simpa using h4, ?_, ?_, ?_⟩
 ·refine (h5.set F _).congr fun j hj => ?_
  by_cases e : j = F
  ·subst e
   simp [h4, hj, Blk.val, MRow.dv]
  ·rw [if_neg e, List.getElem?_set_ne (Ne.symm e)]
 ·intro b hb'
  rcases List.mem_or_eq_of_mem_set hb' with hm | rfl
  ·exact h6 b hm
  ·exact ⟨hr.2.1, hr.2.2.2⟩
 ·rw [knownL_snoc, kSet, show r.says.1.count true = 1 from hc, if_pos rfl, List.map_set, h7]
  show _ = (knownL n A).set (firstI r.h).toNat r.d
  rw [hF]
  simp

theorem KInv.pass {w wr : World} {g n : Nat} {A : List LRow} {r : MRow} (h : KInv w wr g n A) (hc : ¬ r.h.count true = 1) : KInv w wr g n (A ++ [r.says]) := by
 obtain ⟨h1, h2, h3, bl, h4, h5, h6, h7⟩ := h
 refine ⟨h1, h2, h3, bl, h4, h5, h6, ?_⟩
 rw [knownL_snoc, kSet, if_neg (by exact hc), h7]

theorem count_first {h : List Bool} (hc : h.count true = 1) : ∃ F : Nat, firstI h = F ∧ F < h.length := by
 rcases firstI_range h with e | ⟨k, e, hk, _⟩
 ·exfalso
  have := (firstI_no (r := (h, []))).1 e
  have h0 : h.count true = 0 := List.count_eq_zero.2 fun hm => by
   obtain ⟨i, hi, hx⟩ := List.getElem_of_mem hm
   have h2 := this i
   rw [LRow.v_has hi] at h2
   simp only at h2
   rw [hx] at h2
   simp at h2
  omega
 ·exact ⟨k, e, hk⟩

def idx (c : Nat) (l : List MRow) : Int := if l.findIdx (fun r => (LRow.v r.says).has c) < l.length then (l.findIdx (fun r => (LRow.v r.says).has c) : Nat) else -1



theorem infoBool : (Tryz.prog.info? 4).map (fun i => (i.zero, i.size, i.bytes)) = some (some (.bool false), 1, 1) := by kernel_rfl

def xorH (a b : List Bool) : List Bool := List.zipWith (fun x y => x != y) a b

theorem xorH_length {a b : List Bool} (h : b.length = a.length) : (xorH a b).length = a.length := by simp [xorH, h]

theorem cellA' {w : World} {b o : Nat} {v : Value} (h : w.cell? ⟨b, o, none⟩ = some v) (ob : Obj) : (w.alloc ob).cell? ⟨b, o, none⟩ = some v := by
 have := World.block_lt_of_cell? w _ h
 rw [(bcell ((Below.refl w.heap.size w).alloc (Nat.le_refl _) ob)).1 b o this]
 exact h

theorem set2' {w1 : World} {g : Nat} {u v : Value} (h0 : w1.cell? ⟨g, 0, none⟩ = some u) (h1 : w1.cell? ⟨g, 1, none⟩ = some v) (u' v' : Value) :
  ((w1.setCell ⟨g, 0, none⟩ u').setCell ⟨g, 1, none⟩ v').cell? ⟨g, 0, none⟩ = some u' ∧ ((w1.setCell ⟨g, 0, none⟩ u').setCell ⟨g, 1, none⟩ v').cell? ⟨g, 1, none⟩ = some v' := by
 have e0 : (w1.setCell ⟨g, 0, none⟩ u').cell? ⟨g, 0, none⟩ = some u' := World.cell?_setCell_same _ _ _ h0
 have e1 : (w1.setCell ⟨g, 0, none⟩ u').cell? ⟨g, 1, none⟩ = some v := by rw [World.cell?_setCell_other _ _ _ _ (by intro e; cases e)]; exact h1
 exact ⟨by rw [World.cell?_setCell_other _ _ _ _ (by intro e; cases e)]; exact e0, World.cell?_setCell_same _ _ _ e1⟩

theorem own_set {w : World} {B b o : Nat} {e : TypeId} {v u : Value} {n : Nat} {xs : List Value} (h : w.ownsRow B e 1 v n xs) (hb : b < B) : (w.setCell ⟨b, o, none⟩ u).ownsRow B e 1 v n xs := by
 refine ⟨h.1, ?_⟩
 rcases h.2 with h0 | ⟨g, cap, cur, rfl, hbg, hg, hnc, hcm, hcs, htake⟩
 ·exact .inl h0
 ·exact .inr ⟨g, cap, cur, rfl, hbg, by rw [Below.heap_setCell _ _ _ _ (by simp; omega)]; exact hg, hnc, hcm, hcs, htake⟩

def BothInv (W0 wr : World) (g : Nat) (x y : List Bool) (q : Nat) : Prop :=
 Below g W0 wr ∧ g < wr.heap.size ∧ (∃ v, wr.cell? ⟨g, 0, none⟩ = some v ∧ wr.ownsRow (g + 1) 4 1 v q (((xorH x y).map Value.bool).take q)) ∧ wr.cell? ⟨g, 1, none⟩ = some (.slice none 0 0) ∧ (∀ j, wr.frozen? ⟨g, j, none⟩ = false)

theorem BothInv.next {W0 wr w1 : World} {g q cap g' : Nat} {x y : List Bool} {v u : Value} {o : Obj} (hI : BothInv W0 wr g x y q) (hx : ((xorH x y).map Value.bool).take (q + 1) = ((xorH x y).map Value.bool).take q ++ [u]) (hg : g + 1 ≤ wr.heap.size)
  (ho : w1.ownsRow (g + 1) 4 1 (.slice (some ⟨g', 0, none⟩) (q + 1) cap) (q + 1) (((xorH x y).map Value.bool).take q ++ [u])) (hgr : ((wr.alloc o).drew).grownBy w1 v.ownBlock) (hv : wr.cell? ⟨g, 0, none⟩ = some v) (hvb : some g ≠ v.ownBlock) (hlo : ∀ b, v.ownBlock = some b → g < b) :
  BothInv W0 (w1.setCell ⟨g, 0, none⟩ (.slice (some ⟨g', 0, none⟩) (q + 1) cap)) g x y (q + 1) := by
 obtain ⟨i1, i2, ⟨v0, i3, i4⟩, i5, i6⟩ := hI
 have hb1 : Below wr.heap.size wr (wr.alloc o).drew := ((Below.refl _ _).alloc (Nat.le_refl _) o).drew
 have e0 : w1.cell? ⟨g, 0, none⟩ = some v := (hgr.cell_far ⟨g, 0, none⟩ (by simp; omega) hvb).trans (((bcell hb1).1 g 0 i2).trans hv)
 have e1 : w1.cell? ⟨g, 1, none⟩ = some (.slice none 0 0) := (hgr.cell_far ⟨g, 1, none⟩ (by simp; omega) hvb).trans (((bcell hb1).1 g 1 i2).trans i5)
 have e2 : ∀ j, w1.frozen? ⟨g, j, none⟩ = false := fun j => (hgr.frozen_far ⟨g, j, none⟩ (by simp; omega) hvb).trans (((bcell hb1).2 g j i2).trans (i6 j))
 refine ⟨?_, ?_, ⟨_, World.cell?_setCell_same _ _ _ e0, ?_⟩, ?_, fun j => by simpa using e2 j⟩
 ·refine Below.setCell ?_ (by simp) _
  refine (i1.trans (hb1.mono (by omega))).grown hgr (by have := i1.size; simp; omega) fun b hb => by have := hlo b hb; omega
 ·have := hgr.size
  simp at this ⊢
  omega
 ·rw [hx]
  exact own_set ho (by omega)
 ·rw [World.cell?_setCell_other _ _ _ _ (by intro e; cases e)]; exact e1

end Go.Proofs.YtakkajjoeimkdaaGreatDoor
