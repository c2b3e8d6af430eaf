import Derived.Lib.SplitLaws
import Derived.Lib.ParseIntBTie
import Derived.Lib.ItoaLen
import Derived.Lib.ItoaMem
import Derived.Lib.AtoiAllCases
import Derived.Lib.Join
import Derived.WalkKit
import Derived.WalkSpells
import Derived.WalkSmall
import Derived.Deep.OwnRows
import Derived.BigQuiet
import Derived.Deep.QuietTactic
import Derived.Deep.Draws
import Derived.Test.YtakkajjoeimkdaaGreatDoorRows
namespace Go.Proofs.YtakkajjoeimkdaaGreatDoor
set_option linter.unusedVariables false
set_option linter.unusedSimpArgs false

def wordsL : List UInt8 → List (List UInt8)
 | [] => [[]]
 | c :: r => if c = 32 then [] :: wordsL r else match wordsL r with
  | [] => [[c]]
  | x :: xs => (c :: x) :: xs

theorem wordsL_ne (l : List UInt8) : wordsL l ≠ [] := by
 cases l with
 | nil => simp [wordsL]
 | cons c r =>
  simp only [wordsL]
  split
  ·simp
  ·split <;> simp

theorem wordsL_none : ∀ (a : List UInt8), (32 : UInt8) ∉ a → wordsL a = [a]
 | [], _ => rfl
 | c :: r, h => by
  have h1 : ¬ c = 32 := fun e => h (by simp [e])
  have h2 := wordsL_none r (fun e => h (List.mem_cons_of_mem _ e))
  simp only [wordsL, if_neg h1, h2]

theorem wordsL_hit : ∀ (a b : List UInt8), (32 : UInt8) ∉ a → wordsL (a ++ 32 :: b) = a :: wordsL b
 | [], b, _ => by simp [wordsL]
 | c :: r, b, h => by
  have h1 : ¬ c = 32 := fun e => h (by simp [e])
  have h2 := wordsL_hit r b (fun e => h (List.mem_cons_of_mem _ e))
  simp only [List.cons_append, wordsL, if_neg h1, h2]

theorem wordsL_join : ∀ (ws : List (List UInt8)), ws ≠ [] → (∀ x ∈ ws, (32 : UInt8) ∉ x) → wordsL (Lib.join ws [32]) = ws
 | [], h, _ => absurd rfl h
 | [x], _, h => by rw [Lib.join_one, wordsL_none x (h x (by simp))]
 | x :: y :: r, _, h => by
  have ih := wordsL_join (y :: r) (by simp) (fun z hz => h z (List.mem_cons_of_mem _ hz))
  have e : Lib.join (x :: y :: r) [32] = x ++ 32 :: Lib.join (y :: r) [32] := by
   rw [Lib.join_cons, Lib.join_cons]; simp [Lib.joinTail]
  rw [e, wordsL_hit x _ (h x (by simp)), ih]

theorem join_wordsL : ∀ (s : List UInt8), Lib.join (wordsL s) [32] = s
 | [] => by simp [wordsL, Lib.join_one]
 | c :: r => by
  have ih := join_wordsL r
  by_cases h : c = 32
  ·subst h
   simp only [wordsL, if_pos]
   cases hw : wordsL r with
   | nil => exact absurd hw (wordsL_ne r)
   | cons x xs =>
    rw [hw] at ih
    rw [Lib.join_cons] at ih ⊢
    simp [Lib.joinTail] at ih ⊢
    exact ih
  ·simp only [wordsL, if_neg h]
   cases hw : wordsL r with
   | nil => exact absurd hw (wordsL_ne r)
   | cons x xs =>
    rw [hw] at ih
    simp only
    rw [Lib.join_cons] at ih ⊢
    rw [List.cons_append, ih]

theorem wordsL_index (s : List UInt8) : (Lib.index s [32] = -1 ∧ wordsL s = [s]) ∨ ∃ i : Nat, Lib.index s [32] = i ∧ i < s.length ∧ wordsL s = s.take i :: wordsL (s.drop (i + 1)) := by
 have occ : ∀ j, Lib.occAt s [32] j = true ↔ s[j]? = some 32 := by
  intro j
  simp only [Lib.occAt]
  rw [← List.head?_drop]
  cases s.drop j with
  | nil => simp
  | cons a b =>
   simp only [List.isPrefixOf, Bool.and_true, beq_iff_eq, List.head?_cons, Option.some.injEq]
   exact ⟨fun e => e.symm, fun e => e.symm⟩
 rcases Lib.index_spec s [32] with ⟨h1, h2⟩ | ⟨i, h1, hi, h2, h3⟩
 ·left
  refine ⟨h1, wordsL_none s ?_⟩
  intro hm
  obtain ⟨j, hj, e⟩ := List.getElem_of_mem hm
  have := (occ j).2 (by rw [List.getElem?_eq_getElem hj, e])
  rw [h2 j (by omega)] at this
  simp at this
 ·right
  have hs := (occ i).1 h2
  have hl : i < s.length := by
   rcases Nat.lt_or_ge i s.length with h | h
   ·exact h
   ·rw [List.getElem?_eq_none h] at hs; simp at hs
  refine ⟨i, h1, hl, ?_⟩
  have e : s = s.take i ++ 32 :: s.drop (i + 1) := by
   have h4 : s[i] = 32 := by rw [List.getElem?_eq_getElem hl] at hs; simpa using hs
   rw [← h4, List.getElem_cons_drop]
   simp
  conv => lhs; rw [e]
  refine wordsL_hit _ _ ?_
  intro hm
  obtain ⟨j, hj, e⟩ := List.getElem_of_mem hm
  rw [List.length_take] at hj
  have hj' : j < i := by omega
  have h5 := (occ j).2 (by rw [List.getElem?_eq_getElem (by omega)]; simpa using e)
  have h6 := h3 j hj'
  simp [h5] at h6

theorem split_words : ∀ (k : Nat) (s : List UInt8), Lib.count s [32] = k → Lib.splitK [32] 0 k s = wordsL s
 | 0, s, h => by
  rcases wordsL_index s with ⟨h1, h2⟩ | ⟨i, h1, hi, h2⟩
  ·rw [h2]; rfl
  ·rw [Lib.count_hit (by simp) h1] at h; omega
 | k + 1, s, h => by
  rcases wordsL_index s with ⟨h1, h2⟩ | ⟨i, h1, hi, h2⟩
  ·rw [Lib.count_miss h1] at h; omega
  ·rw [Lib.count_hit (by simp) h1] at h
   have ih := split_words k (s.drop (i + 1)) (by simp at h; omega)
   rw [h2, Lib.splitK, h1]
   simp [ih]

/-! ### Numerals -/

theorem parse_append : ∀ (a b : List UInt8) (acc u : Nat), Lib.parseUint10 acc a = .ok u → Lib.parseUint10 acc (a ++ b) = Lib.parseUint10 u b
 | [], b, acc, u, h => by simp only [Lib.parseUint10] at h; injection h with h; subst h; rfl
 | c :: r, b, acc, u, h => by
  simp only [List.cons_append, Lib.parseUint10] at h ⊢
  split at h
  ·split at h
   ·cases h
   ·split at h
    ·cases h
    ·rename_i h1 h2 h3
     rw [if_pos h1, if_neg h2, if_neg h3]
     exact parse_append r b _ u h
  ·cases h

theorem digit_toNat (d : Nat) (h : d < 10) : (UInt8.ofNat (48 + d)).toNat = 48 + d := by
 rw [UInt8.toNat_ofNat']; omega

theorem parse_dec (u : Nat) (h : u < 18446744073709551616) : Lib.parseUint10 0 (Lib.decDigits u) = .ok u := by
 induction u using Nat.strongRecOn with
 | ind u ih =>
  rw [Lib.decDigits]
  by_cases hs : u < 10
  ·rw [dif_pos hs]
   simp only [Lib.parseUint10, digit_toNat u hs]
   rw [if_pos (by omega), if_neg (by omega), if_neg (by omega)]
   congr 1; omega
  ·rw [dif_neg hs, parse_append _ _ 0 (u / 10) (ih (u / 10) (by omega) (by omega))]
   simp only [Lib.parseUint10, digit_toNat (u % 10) (by omega)]
   rw [if_pos (by omega), if_neg (by omega), if_neg (by omega)]
   congr 1; omega

theorem dec_digits (u : Nat) : ∀ c ∈ Lib.decDigits u, 48 ≤ c.toNat ∧ c.toNat ≤ 57 := by
 induction u using Nat.strongRecOn with
 | ind u ih =>
  intro c hc
  rw [Lib.decDigits] at hc
  by_cases hs : u < 10
  ·rw [dif_pos hs] at hc
   simp only [List.mem_singleton] at hc
   subst hc
   rw [digit_toNat u hs]; omega
  ·rw [dif_neg hs] at hc
   rcases List.mem_append.1 hc with h | h
   ·exact ih (u / 10) (by omega) c h
   ·simp only [List.mem_singleton] at h
    subst h
    rw [digit_toNat _ (by omega)]; omega

theorem dec_ne (u : Nat) : Lib.decDigits u ≠ [] := by
 rw [Lib.decDigits]
 split <;> simp

theorem mag_dec (u : Nat) (h : u < 18446744073709551616) : Lib.parseMag (Lib.decDigits u) = .ok u := by
 rw [Lib.parseMag, if_neg (dec_ne u), parse_dec u h]

theorem atoi_itoa (n : Int) (h0 : -9223372036854775808 ≤ n) (h1 : n ≤ 9223372036854775807) : Lib.atoiAll (Lib.itoa n) = .ok n := by
 unfold Lib.itoa
 by_cases hn : n < 0
 ·rw [if_pos hn]
  have e := mag_dec n.natAbs (by omega)
  simp only [Lib.atoiAll, show (45 : UInt8).toNat = 45 from rfl, or_true, if_true, e]
  rw [if_neg (by simp), if_neg (by omega)]
  congr 1; omega
 ·rw [if_neg hn]
  have e := mag_dec n.toNat (by omega)
  cases hd : Lib.decDigits n.toNat with
  | nil => exact absurd hd (dec_ne _)
  | cons c r =>
   have hc := dec_digits n.toNat c (by rw [hd]; simp)
   have c43 : ¬ c.toNat = 43 := by omega
   have c45 : ¬ c.toNat = 45 := by omega
   rw [hd] at e
   simp only [Lib.atoiAll, c43, c45, or_self, if_false, e]
   rw [if_neg (by omega), if_neg (by simp)]
   congr 1; omega

theorem itoa_free (n : Int) : (32 : UInt8) ∉ Lib.itoa n := by
 have hd : ∀ u, (32 : UInt8) ∉ Lib.decDigits u := by
  intro u h
  have := dec_digits u 32 h
  simp at this
 unfold Lib.itoa
 split
 ·intro h
  rcases List.mem_cons.1 h with h | h
  ·cases h
  ·exact hd _ h
 ·exact hd _

def numW (x : List UInt8) : Option Int :=
 match Lib.atoiAll x with
 | .ok v => if Lib.itoa v = x then some v else none
 | _ => none

theorem numW_itoa (n : Int) (h0 : -9223372036854775808 ≤ n) (h1 : n ≤ 9223372036854775807) : numW (Lib.itoa n) = some n := by
 simp [numW, atoi_itoa n h0 h1]

theorem numW_back {x : List UInt8} {n : Int} (h : numW x = some n) : Lib.itoa n = x ∧ -9223372036854775808 ≤ n ∧ n ≤ 9223372036854775807 := by
 unfold numW at h
 split at h
 ·rename_i v hv
  split at h
  ·rename_i hx
   injection h with h
   subst h
   exact ⟨hx, Lib.atoiAll_bounds hv⟩
  ·cases h
 ·cases h

/-! ### Bytes as digits -/

def digsL : List UInt8 := [48, 49, 50, 51, 52, 53, 54, 55, 56, 57, 97, 98, 99, 100, 101, 102]

def dig (n : Nat) : UInt8 := digsL.getD n 0

def hexL (l : List UInt8) : List UInt8 := l.flatMap fun b => [dig (b.toNat / 16), dig (b.toNat % 16)]

def hexW (l : List UInt8) : List UInt8 := 45 :: hexL l

theorem hexL_nil : hexL [] = [] := rfl
theorem hexL_cons (b : UInt8) (l : List UInt8) : hexL (b :: l) = dig (b.toNat / 16) :: dig (b.toNat % 16) :: hexL l := by simp [hexL]
theorem hexL_append (a b : List UInt8) : hexL (a ++ b) = hexL a ++ hexL b := by simp [hexL]

theorem hexL_len (l : List UInt8) : (hexL l).length = 2 * l.length := by
 induction l with
 | nil => rfl
 | cons b l ih => rw [hexL_cons]; simp [ih]; omega

def digI (c : UInt8) : Int := Lib.indexByte digsL c

theorem digI_dig : ∀ n, n < 16 → digI (dig n) = n := by decide

theorem digI_all : ∀ c : UInt8, digI c = -1 ∨ (0 ≤ digI c ∧ digI c < 16 ∧ dig (digI c).toNat = c) := by
 intro c
 by_cases h : c ∈ digsL
 ·right
  simp only [digsL, List.mem_cons, List.not_mem_nil, or_false] at h
  rcases h with h | h | h | h | h | h | h | h | h | h | h | h | h | h | h | h <;> subst h <;> decide
 ·left
  have gen : ∀ l : List UInt8, c ∉ l → Lib.indexByte l c = -1 := by
   intro l
   induction l with
   | nil => intro _; rfl
   | cons b l ih =>
    intro hm
    have h1 : ¬ (b == c) = true := by simp; intro e; exact hm (by simp [e])
    have h2 := ih (fun e => hm (List.mem_cons_of_mem _ e))
    rw [Lib.indexByte, if_neg h1, h2]; rfl
  exact gen _ h

theorem dig_ne : ∀ n, n < 16 → dig n ≠ 32 := by decide

theorem hexL_free (l : List UInt8) : (32 : UInt8) ∉ hexL l := by
 induction l with
 | nil => simp [hexL]
 | cons b l ih =>
  rw [hexL_cons]
  intro h
  rcases List.mem_cons.1 h with h | h
  ·exact dig_ne _ (by have := b.toNat_lt; omega) h.symm
  ·rcases List.mem_cons.1 h with h | h
   ·exact dig_ne _ (by omega) h.symm
   ·exact ih h

theorem hexW_free (l : List UInt8) : (32 : UInt8) ∉ hexW l := by
 intro h
 rcases List.mem_cons.1 h with h | h
 ·cases h
 ·exact hexL_free l h

def unhex : List UInt8 → Option (List UInt8)
 | [] => some []
 | [_] => none
 | a :: b :: r => if digI a < 0 ∨ digI b < 0 then none else (unhex r).map (UInt8.ofNat ((digI a).toNat * 16 + (digI b).toNat) :: ·)

def byW : List UInt8 → Option (List UInt8)
 | 45 :: r => unhex r
 | _ => none

theorem unhex_hex : ∀ l, unhex (hexL l) = some l
 | [] => rfl
 | b :: l => by
  have hb := b.toNat_lt
  have h1 := digI_dig (b.toNat / 16) (by omega)
  have h2 := digI_dig (b.toNat % 16) (by omega)
  rw [hexL_cons, unhex, h1, h2, if_neg (by omega), unhex_hex l]
  simp only [Option.map_some, Int.toNat_natCast]
  rw [show b.toNat / 16 * 16 + b.toNat % 16 = b.toNat by omega]
  simp

theorem hex_unhex : ∀ (x l : List UInt8), unhex x = some l → hexL l = x
 | [], l, h => by simp [unhex] at h; subst h; rfl
 | [_], l, h => by simp [unhex] at h
 | a :: b :: r, l, h => by
  rw [unhex] at h
  split at h
  ·cases h
  ·rename_i hn
   cases hr : unhex r with
   | none => rw [hr] at h; cases h
   | some m =>
    rw [hr] at h
    simp only [Option.map_some, Option.some.injEq] at h
    subst h
    have ih := hex_unhex r m hr
    rcases digI_all a with ha | ⟨a0, a1, a2⟩
    ·exact absurd (Or.inl (by omega)) hn
    ·rcases digI_all b with hb | ⟨b0, b1, b2⟩
     ·exact absurd (Or.inr (by omega)) hn
     ·have e : (UInt8.ofNat ((digI a).toNat * 16 + (digI b).toNat)).toNat = (digI a).toNat * 16 + (digI b).toNat := by
       rw [UInt8.toNat_ofNat']; omega
      rw [hexL_cons, e, ih, show ((digI a).toNat * 16 + (digI b).toNat) / 16 = (digI a).toNat by omega, show ((digI a).toNat * 16 + (digI b).toNat) % 16 = (digI b).toNat by omega, a2, b2]

theorem byW_hexW (l : List UInt8) : byW (hexW l) = some l := unhex_hex l

theorem hexW_byW {x l : List UInt8} (h : byW x = some l) : hexW l = x := by
 unfold byW at h
 split at h
 ·rw [hexW, hex_unhex _ _ h]
 ·cases h

theorem unhex_odd : ∀ (x : List UInt8), x.length % 2 ≠ 0 → unhex x = none
 | [], h => absurd rfl h
 | [_], _ => rfl
 | a :: b :: r, h => by
  have := unhex_odd r (by simp at h ⊢; omega)
  rw [unhex, this]
  split <;> rfl

end Go.Proofs.YtakkajjoeimkdaaGreatDoor

namespace Go.Proofs.YtakkajjoeimkdaaGreatDoor
open Go.RowKit
set_option linter.unusedVariables false
set_option linter.unusedSimpArgs false

def Lies (w : World) (a : Option Addr) (xs : List Value) : Prop :=
 ∀ k u, xs[k]? = some u → ∃ b off, a = some ⟨b, off, none⟩ ∧ w.cell? ⟨b, off + k, none⟩ = some u

theorem Lies.nil (w : World) (a : Option Addr) : Lies w a [] := by
 intro k u h
 simp at h

theorem Lies.lt {w : World} {a : Option Addr} {xs : List Value} (h : Lies w a xs) {b off : Nat} (e : a = some ⟨b, off, none⟩) (k : Nat) (hk : k < xs.length) :
  w.cell? ⟨b, off + k, none⟩ = some xs[k] := by
 obtain ⟨b', off', e', hc⟩ := h k xs[k] (by simp [hk])
 rw [e] at e'
 simp at e'
 obtain ⟨rfl, rfl⟩ := e'
 exact hc

theorem Lies.some {w : World} {a : Option Addr} {xs : List Value} (h : Lies w a xs) {k : Nat} (hk : k < xs.length) : ∃ b off, a = .some ⟨b, off, none⟩ := by
 obtain ⟨b, off, e, _⟩ := h k xs[k] (by simp [hk])
 exact ⟨b, off, e⟩

theorem Lies.at {w : World} {b off : Nat} {xs : List Value} (h : Lies w (.some ⟨b, off, none⟩) xs) {k : Nat} {u : Value} (hu : xs[k]? = .some u) : w.cell? ⟨b, off + k, none⟩ = .some u := by
 obtain ⟨b', off', e', hc⟩ := h k u hu
 simp at e'
 obtain ⟨rfl, rfl⟩ := e'
 exact hc

theorem Lies.mk {w : World} {b off : Nat} {xs : List Value} (h : ∀ k (hk : k < xs.length), w.cell? ⟨b, off + k, none⟩ = .some xs[k]) : Lies w (.some ⟨b, off, none⟩) xs := by
 intro k u hu
 obtain ⟨hk, rfl⟩ := List.getElem?_eq_some_iff.1 hu
 exact ⟨b, off, rfl, h k hk⟩

theorem Lies.below {w w' : World} {B : Nat} (hb : Below B w w') {a : Option Addr} {xs : List Value} (h : Lies w a xs) (hB : w.heap.size ≤ B) : Lies w' a xs := by
 intro k u hu
 obtain ⟨b, off, e, hc⟩ := h k u hu
 refine ⟨b, off, e, ?_⟩
 have := World.block_lt_of_cell? w _ hc
 rw [hb.cell (p := ⟨b, off + k, none⟩) (by simp at this ⊢; omega)]
 exact hc

theorem Lies.drewN {w : World} {a : Option Addr} {xs : List Value} (h : Lies w a xs) (n : Nat) : Lies (w.drewN n) a xs := by
 intro k u hu
 obtain ⟨b, off, e, hc⟩ := h k u hu
 exact ⟨b, off, e, by simpa using hc⟩

theorem bdn (w : World) (n B : Nat) : Below B w (w.drewN n) := by
 induction n with
 | zero => exact Below.refl _ _
 | succ n ih => exact ih.trans (by first | exact (Below.refl _ _).drew | simpa using (Below.refl _ _).drew)

theorem Lies.alloc_new (w : World) (c : Array Value) (t : TypeId) : Lies (w.alloc (.cells c t)) (.some ⟨w.heap.size, 0, none⟩) c.toList := by
 refine Lies.mk fun k hk => ?_
 have e : (w.alloc (.cells c t)).heap[w.heap.size]? = .some (.cells c t) := by show (w.heap.push _)[w.heap.size]? = _; simp
 simp only [World.cell?, e]
 simp at hk ⊢

theorem Lies.alloc {w : World} {a : Option Addr} {xs : List Value} (h : Lies w a xs) (o : Obj) : Lies (w.alloc o) a xs :=
 h.below ((Below.refl w.heap.size w).alloc (Nat.le_refl _) o) (Nat.le_refl _)

theorem Lies.of_block {w : World} {b : Nat} {c : Array Value} {t : TypeId} {f : Nat × Nat} (e : w.heap[b]? = .some (.cells c t f)) : Lies w (.some ⟨b, 0, none⟩) c.toList := by
 refine Lies.mk fun k hk => ?_
 simp only [World.cell?, e]
 simp at hk ⊢

theorem heap_alloc_eq (w : World) (o : Obj) (b : Nat) : (w.alloc o).heap[b]? = if b = w.heap.size then some o else w.heap[b]? := by
 show (w.heap.push o)[b]? = _
 rw [Array.getElem?_push]

theorem size_alloc_eq (w : World) (o : Obj) : (w.alloc o).heap.size = w.heap.size + 1 := by simp

theorem own_lies {w : World} {B : Nat} {e : TypeId} {v : Value} {n : Nat} {xs : List Value} (h : w.ownsRow B e 1 v n xs) : ∃ a cap, v = .slice a n cap ∧ Lies w a xs ∧ n = xs.length := by
 have hn : n = xs.length := by simpa using h.1.symm
 rcases h.2 with ⟨rfl, h0⟩ | ⟨g, cap, cur, rfl, hb, hg, hnc, hcm, hcs, htake⟩
 ·subst h0
  have : xs = [] := List.eq_nil_of_length_eq_zero hn.symm
  subst this
  exact ⟨none, 0, rfl, Lies.nil _ _, rfl⟩
 ·refine ⟨_, cap, rfl, Lies.mk fun k hk => ?_, hn⟩
  simp only [World.cell?, hg]
  have h2 : xs[k]? = cur.toList[k]? := by
   rw [← htake, List.getElem?_take, if_pos (by omega)]
  simp at h2
  simp [← h2]

theorem grown_trans {a b c : World} {row : Option Nat} (h : a.grownBy b row) (k : b.grownBy c row) : a.grownBy c row :=
 ⟨k.os.trans h.os, k.tape.trans h.tape, k.output.trans h.output, Nat.le_trans h.size k.size, fun i hi hr => (k.block i (by have := h.size; omega) hr).trans (h.block i hi hr)⟩

theorem grown_refl (a : World) (row : Option Nat) : a.grownBy a row := ⟨rfl, rfl, rfl, Nat.le_refl _, fun _ _ _ => rfl⟩

theorem grown_setCell (w : World) (g o : Nat) (v : Value) : w.grownBy (w.setCell ⟨g, o, none⟩ v) (some g) :=
 ⟨rfl, rfl, rfl, by simp [World.setCell], fun k hk hr => Below.heap_setCell _ _ _ _ (fun e => hr (by simp [e]))⟩

theorem lies_grown {w w' : World} {g : Nat} (h : w.grownBy w' (some g)) {a : Option Addr} {xs : List Value} (hl : Lies w a xs) (hne : ∀ b off, a = some ⟨b, off, none⟩ → b ≠ g) : Lies w' a xs := by
 intro k u hu
 obtain ⟨b, off, e, hc⟩ := hl k u hu
 exact ⟨b, off, e, h.cell hc (by have := hne b off e; simp; exact this)⟩

def bs (l : List UInt8) : List Value := l.map fun x => Value.int .u8 (x.toNat : Int)

theorem bs_length (l : List UInt8) : (bs l).length = l.length := by simp [bs]

theorem bs_get (l : List UInt8) (k : Nat) (h : k < l.length) : (bs l)[k]? = some (.int .u8 (l[k].toNat : Int)) := by simp [bs, h]

def I64 (x : Int) : Prop := -9223372036854775808 ≤ x ∧ x ≤ 9223372036854775807

structure Shut (p : Prop) : Prop where
 out : p

theorem ret_bool {a b : Bool} (h : a = b) : Ending.returned (.bool a) = .returned (.bool b) := by rw [h]
theorem ret_int {k : IntKind} {a b : Int} (h : a = b) : Ending.returned (.int k a) = .returned (.int k b) := by rw [h]

theorem retB {a b : Bool} (h : a = b) : Ending.returned (.bool a) = .returned (.bool b) := by rw [h]

theorem ret2 {x y x' y' : Value} (h : x = x') (k : y = y') : Ending.returned (.tuple #[x, y]) = .returned (.tuple #[x', y']) := by rw [h, k]

theorem bcell {W w1 : World} (hb : Below W.heap.size W w1) : (∀ b o, b < W.heap.size → w1.cell? ⟨b, o, none⟩ = W.cell? ⟨b, o, none⟩) ∧ (∀ b o, b < W.heap.size → w1.frozen? ⟨b, o, none⟩ = W.frozen? ⟨b, o, none⟩) :=
 ⟨fun b o h => hb.cell (p := ⟨b, o, none⟩) h, fun b o h => hb.frozen (p := ⟨b, o, none⟩) h⟩

theorem Hid.mk' {p : Prop} (h : p) : Hid p := h

theorem boxBelow {w w1 : World} {o : Obj} (h : Below (w.alloc o).heap.size (w.alloc o) w1) : Below w.heap.size w w1 :=
 ((Below.refl _ _).alloc (Nat.le_refl _) o).trans (h.mono (by simp))

theorem rowIs_lies {w : World} {g n : Nat} {t : TypeId} {f : Nat → Value} (h : w.rowIs g t n f) : Lies w (some ⟨g, 0, none⟩) ((List.range n).map f) := by
 refine Lies.mk fun k hk => ?_
 have hk' : k < n := by simpa using hk
 rw [Nat.zero_add, h.cell hk']
 simp

theorem own_slice {w : World} {B : Nat} {e : TypeId} {v : Value} {n : Nat} {xs : List Value} (h : w.ownsRow B e 1 v n xs) : ∃ p q, v = .slice p n q ∧ n ≤ q := by
 rcases h.2 with ⟨rfl, h0⟩ | ⟨g, cap, cur, rfl, hb, hg, hnc, hcm, hcs, htake⟩
 ·subst h0
  exact ⟨none, 0, rfl, Nat.le_refl _⟩
 ·exact ⟨_, _, rfl, hnc⟩

theorem row_lies' {w : World} {g cap : Nat} {e : TypeId} {f : Nat → Value} (h : w.rowIs g e cap f) (xs : List Value) (hn : xs.length ≤ cap) (hx : ∀ i (hi : i < xs.length), f i = xs[i]) : Lies w (some ⟨g, 0, none⟩) xs := by
 refine Lies.mk fun k hk => ?_
 rw [Nat.zero_add, h.cell (by omega), hx k hk]

end Go.Proofs.YtakkajjoeimkdaaGreatDoor

namespace Go.Proofs.YtakkajjoeimkdaaGreatDoor
set_option linter.unusedVariables false
set_option linter.unusedSimpArgs false

structure Blk where
 a : Option Addr
 cap : Nat
 l : List UInt8

def Blk.val (b : Blk) : Value := .slice b.a b.l.length b.cap

def AllIn (w : World) (bl : List Blk) : Prop := ∀ b ∈ bl, Lies w b.a (bs b.l) ∧ b.l.length ≤ maxLen

def lens (bl : List Blk) : List Nat := bl.map fun b => b.l.length

def chkFrom (f : Nat) : List Nat → Int
 | [] => 0
 | n :: r => if n < 1 ∨ 16 < n then 2 else if n ≠ f then 4 else chkFrom f r

def chk (l : List Nat) : Int := chkFrom (l.headD 0) l

def okTo (f : Nat) (l : List Nat) (k : Nat) : Prop := ∀ i (h : i < l.length), i < k → 1 ≤ l[i] ∧ l[i] ≤ 16 ∧ l[i] = f

theorem okTo_zero (f : Nat) (l : List Nat) : okTo f l 0 := fun i h hk => by omega

theorem okTo_succ {f : Nat} {l : List Nat} {k : Nat} (h : okTo f l k) (hk : k < l.length) (h1 : 1 ≤ l[k]) (h2 : l[k] ≤ 16) (h3 : l[k] = f) : okTo f l (k + 1) := by
 intro i hi hik
 by_cases e : i = k
 ·subst e; exact ⟨h1, h2, h3⟩
 ·exact h i hi (by omega)

theorem chkFrom_all {f : Nat} {l : List Nat} (h : okTo f l l.length) : chkFrom f l = 0 := by
 induction l with
 | nil => rfl
 | cons n r ih =>
  have h0 := h 0 (by simp) (by simp)
  simp only [List.getElem_cons_zero] at h0
  have hr : okTo f r r.length := fun i hi _ => by
   have := h (i + 1) (by simp; omega) (by simp; omega)
   simpa using this
  simp only [chkFrom]
  rw [if_neg (by omega), if_neg (by omega), ih hr]

theorem chkFrom_at {f : Nat} {l : List Nat} {k : Nat} (h : okTo f l k) (hk : k < l.length) :
  (l[k] < 1 ∨ 16 < l[k] → chkFrom f l = 2) ∧ (¬ (l[k] < 1 ∨ 16 < l[k]) → l[k] ≠ f → chkFrom f l = 4) := by
 induction l generalizing k with
 | nil => simp at hk
 | cons n r ih =>
  cases k with
  | zero =>
   simp only [List.getElem_cons_zero]
   exact ⟨fun hb => by rw [chkFrom, if_pos hb], fun hb hf => by rw [chkFrom, if_neg hb, if_pos hf]⟩
  | succ k =>
   have h0 := h 0 (by simp) (by omega)
   simp only [List.getElem_cons_zero] at h0
   have hr : okTo f r k := fun i hi hik => by
    have := h (i + 1) (by simp; omega) (by omega)
    simpa using this
   have := ih hr (by simpa using hk)
   simp only [List.getElem_cons_succ]
   simp only [chkFrom]
   rw [if_neg (by omega), if_neg (by omega)]
   exact this

theorem chk_zero {l : List Nat} (h : chk l = 0) : ∀ i (hi : i < l.length), 1 ≤ l[i] ∧ l[i] ≤ 16 ∧ l[i] = l.headD 0 := by
 have : ∀ (f : Nat) (l : List Nat), chkFrom f l = 0 → ∀ i (hi : i < l.length), 1 ≤ l[i] ∧ l[i] ≤ 16 ∧ l[i] = f := by
  intro f l
  induction l with
  | nil => intro _ i hi; simp at hi
  | cons n r ih =>
   intro h i hi
   simp only [chkFrom] at h
   by_cases hb : n < 1 ∨ 16 < n
   ·rw [if_pos hb] at h; omega
   ·rw [if_neg hb] at h
    by_cases e : n = f
    ·rw [if_neg (by simp [e])] at h
     cases i with
     | zero => simp only [List.getElem_cons_zero]; omega
     | succ i => simpa using ih h i (by simpa using hi)
    ·rw [if_pos e] at h; omega
 exact this _ _ h

def xorl (a b : List UInt8) : List UInt8 := List.zipWith (fun x y => x ^^^ y) a b

theorem xorl_length (a b : List UInt8) (h : b.length = a.length) : (xorl a b).length = a.length := by simp [xorl, h]

def zeros (n : Nat) : List UInt8 := List.replicate n 0

def sumTo (acc : List UInt8) : List (List UInt8) → List UInt8
 | [] => acc
 | b :: r => sumTo (xorl acc b) r

theorem sumTo_append (acc : List UInt8) (l m : List (List UInt8)) : sumTo acc (l ++ m) = sumTo (sumTo acc l) m := by
 induction l generalizing acc with
 | nil => rfl
 | cons b r ih => simp [sumTo, ih]

theorem sumTo_length {n : Nat} (acc : List UInt8) (l : List (List UInt8)) (ha : acc.length = n) (hl : ∀ b ∈ l, b.length = n) : (sumTo acc l).length = n := by
 induction l generalizing acc with
 | nil => exact ha
 | cons b r ih =>
  simp only [sumTo]
  refine ih _ ?_ fun c hc => hl c (by simp [hc])
  rw [xorl_length _ _ (by rw [ha]; exact hl b (by simp)), ha]

def sumOf (ls : List (List UInt8)) : List UInt8 := sumTo (zeros (ls.headD []).length) ls

end Go.Proofs.YtakkajjoeimkdaaGreatDoor

namespace Go.Proofs.YtakkajjoeimkdaaGreatDoor
open Go.RowKit
set_option linter.unusedVariables false
set_option linter.unusedSimpArgs false

theorem AllIn.below {w w' : World} {bl : List Blk} (h : AllIn w bl) (hb : Below w.heap.size w w') : AllIn w' bl := fun b hm => ⟨(h b hm).1.below hb (Nat.le_refl _), (h b hm).2⟩

theorem lens_get {bl : List Blk} {k : Nat} (h : k < bl.length) : (lens bl)[k]'(by simpa [lens] using h) = bl[k].l.length := by simp [lens]

theorem chk_2 {bl : List Blk} {k : Nat} (hok : Hid (okTo ((lens bl).headD 0) (lens bl) k)) (h : k < bl.length) (hb : (bl[k].l.length : Int) < 1 ∨ 16 < (bl[k].l.length : Int)) : (2 : Int) = chk (lens bl) :=
 (((chkFrom_at hok.out (by simpa [lens] using h)).1 (by rw [lens_get h]; omega))).symm

theorem lens_head {bl : List Blk} (h : 0 < bl.length) : (lens bl).headD 0 = bl[0].l.length := by
 cases bl with
 | nil => simp at h
 | cons b r => simp [lens]

theorem chk_4 {bl : List Blk} {k : Nat} (hok : Hid (okTo ((lens bl).headD 0) (lens bl) k)) (h : k < bl.length) (h0 : 0 < bl.length) (h1 : 1 ≤ (bl[k].l.length : Int)) (h2 : (bl[k].l.length : Int) ≤ 16) (hne : ((bl[k].l.length : Int) != (bl[0].l.length : Int)) = true) : (4 : Int) = chk (lens bl) :=
 (((chkFrom_at hok.out (by simpa [lens] using h)).2 (by rw [lens_get h]; omega) (by
  rw [lens_get h, lens_head h0]
  simp at hne
  omega))).symm

theorem chk_go {bl : List Blk} {k : Nat} (hok : Hid (okTo ((lens bl).headD 0) (lens bl) k)) (h : k < bl.length) (h0 : 0 < bl.length) (h1 : 1 ≤ (bl[k].l.length : Int)) (h2 : (bl[k].l.length : Int) ≤ 16) (hne : ((bl[k].l.length : Int) != (bl[0].l.length : Int)) = false) : okTo ((lens bl).headD 0) (lens bl) (k + 1) :=
 okTo_succ hok.out (by simpa [lens] using h) (by rw [lens_get h]; omega) (by rw [lens_get h]; omega) (by
  rw [lens_get h, lens_head h0]
  simp at hne
  omega)

theorem chk_end {bl : List Blk} {k : Nat} (hok : Hid (okTo ((lens bl).headD 0) (lens bl) k)) (hk : k = bl.length) : (0 : Int) = chk (lens bl) := by
 subst hk
 exact (chkFrom_all (l := lens bl) (by simpa [lens] using hok.out)).symm

set_option maxHeartbeats 400000 in
theorem check_any (a : Option Addr) (cap : Nat) (bl : List Blk) (w : World) (hn : bl.length ≤ maxLen) (ha : Lies w a (bl.map Blk.val)) (hall : AllIn w bl) :
  Calls Tryz.prog 227 #[.slice a bl.length cap] w fun e w' => e = .returned (.int .i64 (chk (lens bl))) ∧ w = w' := by
 unfold maxLen at hn
 have hf : ∀ i (h : i < bl.length), (bl[i].l.length : Int) ≤ 9223372036854775807 := fun i h => by
  have := (hall bl[i] (by simp)).2
  unfold maxLen at this
  omega
 go_enter Tryz.func227, Tryz.ntmps227
 go_wp2
 go_loop [7] (fun i => ∃ k : Nat, k ≤ bl.length ∧ i = .int .i64 k ∧ Hid (okTo ((lens bl).headD 0) (lens bl) k)) (fun i => bl.length - (intOf i).toNat)
 case atStart => exact ⟨0, Nat.zero_le _, rfl, okTo_zero _ _⟩
 case round =>
  obtain ⟨k, hk, rfl, hok⟩ := hrel
  by_cases hlt : k < bl.length
  ·obtain ⟨b1, o1, rfl⟩ := ha.some (k := k) (by simpa using hlt)
   have h0lt : 0 < bl.length := by omega
   have h1 : w.cell? ⟨b1, o1 + k, none⟩ = some (.slice bl[k].a bl[k].l.length bl[k].cap) := ha.at (by simp [hlt, Blk.val])
   have h0 : w.cell? ⟨b1, o1, none⟩ = some (.slice bl[0].a bl[0].l.length bl[0].cap) := by simpa using ha.at (k := 0) (by simp [h0lt, Blk.val])
   clear ha hall
   by_cases hb1 : (bl[k].l.length : Int) < 1
   ·go_wp2
    go_ret
    exact ⟨ret_int (chk_2 hok hlt (.inl hb1)), rfl⟩
   have hb1 : 1 ≤ (bl[k].l.length : Int) := by omega
   by_cases hb2 : 16 < (bl[k].l.length : Int)
   ·go_wp2
    go_ret
    exact ⟨ret_int (chk_2 hok hlt (.inr hb2)), rfl⟩
   have hb2 : (bl[k].l.length : Int) ≤ 16 := by omega
   cases hne : ((bl[k].l.length : Int) != (bl[0].l.length : Int)) with
   | true =>
    go_wp2
    go_ret
    exact ⟨ret_int (chk_4 hok hlt h0lt hb1 hb2 hne), rfl⟩
   | false =>
    go_wp2
    go_round
    case rel => exact ⟨k + 1, by omega, by go_num, chk_go hok hlt h0lt hb1 hb2 hne⟩
    case measure => simp [intOf]; omega
  ·clear ha hall
   go_wp2
   go_ret
   exact ⟨ret_int (chk_end hok (by omega)), rfl⟩

end Go.Proofs.YtakkajjoeimkdaaGreatDoor

namespace Go.Proofs.YtakkajjoeimkdaaGreatDoor
set_option linter.unusedVariables false
set_option linter.unusedSimpArgs false

def Caps (bl : List Blk) : Prop := ∀ b ∈ bl, b.l.length ≤ b.cap

def nB (B K : Int) : Int := if B < 1 ∨ K < 1 then 0 else (B - 1) / K + 1

def chkP (B K : Int) : Int := if B < 1 ∨ 360 < B ∨ K < 1 ∨ 16 < K then 3 else if 24 < nB B K then 2 else 0

theorem nB_none {B K : Int} (h : B < 1 ∨ K < 1) : nB B K = 0 := if_pos h
theorem nB_some {B K : Int} (h : 1 ≤ B) (k : 1 ≤ K) : nB B K = (B - 1) / K + 1 := if_neg (by omega)

theorem nB_nat (n k : Nat) (hn : 1 ≤ n) (hk : 1 ≤ k) : nB n k = (((n - 1) / k + 1 : Nat) : Int) := by
 rw [nB_some (by omega) (by omega)]
 have : (n : Int) - 1 = ((n - 1 : Nat) : Int) := by omega
 rw [this]
 simp

structure Good (B K : Int) (n k nb : Nat) : Prop where
 eB : B = n
 eK : K = k
 n1 : 1 ≤ n
 n2 : n ≤ 360
 k1 : 1 ≤ k
 k2 : k ≤ 16
 eN : nB B K = nb
 b1 : 1 ≤ nb
 b2 : nb ≤ 24
 lo : (nb - 1) * k < n
 hi : n ≤ nb * k

theorem nb_bounds {n k : Nat} (hn : 1 ≤ n) (hk : 1 ≤ k) : ((n - 1) / k + 1 - 1) * k < n ∧ n ≤ ((n - 1) / k + 1) * k := by
 have h1 := Nat.div_mul_le_self (n - 1) k
 have h2 := Nat.lt_div_mul_add (a := n - 1) hk
 rw [Nat.add_sub_cancel, Nat.add_mul, Nat.one_mul]
 omega

theorem good_of {B K : Int} (h : chkP B K = 0) : ∃ n k nb, Good B K n k nb := by
 unfold chkP at h
 by_cases hr : B < 1 ∨ 360 < B ∨ K < 1 ∨ 16 < K
 ·rw [if_pos hr] at h; omega
 ·rw [if_neg hr] at h
  by_cases hm : 24 < nB B K
  ·rw [if_pos hm] at h; omega
  ·have eB : B = (B.toNat : Int) := by omega
   have eK : K = (K.toNat : Int) := by omega
   have hn : 1 ≤ B.toNat := by omega
   have hk : 1 ≤ K.toNat := by omega
   have e := nB_nat B.toNat K.toNat hn hk
   rw [← eB, ← eK] at e
   have hb := nb_bounds hn hk
   generalize (B.toNat - 1) / K.toNat = q at e hb
   exact ⟨B.toNat, K.toNat, _, eB, eK, hn, by omega, hk, by omega, e, by omega, by omega, hb.1, hb.2⟩

theorem chkP_good {B K : Int} {n k nb : Nat} (g : Good B K n k nb) : chkP B K = 0 := by
 unfold chkP
 have := g.eB; have := g.eK; have := g.n1; have := g.n2; have := g.k1; have := g.k2
 rw [if_neg (by omega), if_neg (by rw [g.eN]; have := g.b2; omega)]

def piece (k i : Nat) (c : List UInt8) : List UInt8 := (List.range k).map fun t => (c[i * k + t]?).getD 0

theorem piece_length (k i : Nat) (c : List UInt8) : (piece k i c).length = k := by simp [piece]

theorem piece_get {k i t : Nat} (c : List UInt8) (h : t < k) : (piece k i c)[t]? = some ((c[i * k + t]?).getD 0) := by simp [piece, h]

def cutL (nb k : Nat) (c : List UInt8) : List (List UInt8) := (List.range nb).map fun i => piece k i c

theorem cutL_length (nb k : Nat) (c : List UInt8) : (cutL nb k c).length = nb := by simp [cutL]

theorem cutL_get {nb k i : Nat} (c : List UInt8) (h : i < nb) : (cutL nb k c)[i]? = some (piece k i c) := by simp [cutL, h]

theorem cutL_all (nb k : Nat) (c : List UInt8) : ∀ b ∈ cutL nb k c, b.length = k := by
 intro b hb
 obtain ⟨i, _, rfl⟩ := List.mem_map.1 hb
 exact piece_length _ _ _

theorem flatten_length_of {k : Nat} {ls : List (List UInt8)} (h : ∀ b ∈ ls, b.length = k) : ls.flatten.length = ls.length * k := by
 induction ls with
 | nil => simp
 | cons b r ih =>
  have hb := h b (by simp)
  have := ih fun c hc => h c (by simp [hc])
  simp only [List.flatten_cons, List.length_append, List.length_cons, Nat.add_mul, Nat.one_mul]
  omega

theorem flatten_get {k : Nat} {ls : List (List UInt8)} (h : ∀ b ∈ ls, b.length = k) (i t : Nat) (ht : t < k) : ls.flatten[i * k + t]? = (ls[i]?).bind fun b => b[t]? := by
 induction ls generalizing i with
 | nil => simp
 | cons b r ih =>
  have hb := h b (by simp)
  cases i with
  | zero => simp [List.getElem?_append, hb, ht]
  | succ i =>
   rw [List.flatten_cons, List.getElem?_append, if_neg (by rw [hb, Nat.add_mul]; omega), List.getElem?_cons_succ, ← ih (fun c hc => h c (by simp [hc])) i]
   congr 1
   rw [hb, Nat.add_mul]
   omega

theorem cut_flatten (nb k : Nat) (c : List UInt8) (hc : c.length ≤ nb * k) (hk : 1 ≤ k) : (cutL nb k c).flatten = c ++ zeros (nb * k - c.length) := by
 apply List.ext_getElem?
 intro j
 have hl : (cutL nb k c).flatten.length = nb * k := by rw [flatten_length_of (cutL_all nb k c), cutL_length]
 by_cases hj : j < nb * k
 ·have hi : j / k < nb := Nat.div_lt_of_lt_mul (by rw [Nat.mul_comm]; exact hj)
  have ht : j % k < k := Nat.mod_lt _ hk
  have hjj : j / k * k + j % k = j := by rw [Nat.mul_comm]; exact Nat.div_add_mod j k
  have e := flatten_get (cutL_all nb k c) (j / k) (j % k) ht
  rw [cutL_get c hi, hjj] at e
  simp only [Option.bind_some] at e
  rw [piece_get c ht, hjj] at e
  rw [e, List.getElem?_append]
  by_cases hcl : j < c.length
  ·rw [if_pos hcl]; simp [hcl]
  ·rw [if_neg hcl]
   have h1 : c[j]? = none := List.getElem?_eq_none (by omega)
   rw [h1]
   simp [zeros, List.getElem?_replicate]
   omega
 ·rw [List.getElem?_eq_none (by omega), List.getElem?_eq_none (by simp [zeros]; omega)]

def allZero (l : List UInt8) : Bool := l.all (· == 0)

theorem allZero_zeros (n : Nat) : allZero (zeros n) = true := by simp [allZero, zeros]

def cutCode (B K : Int) (c : List UInt8) : Int := if chkP B K ≠ 0 then chkP B K else if (c.length : Int) ≠ B then 4 else 0
def cutRes (B K : Int) (c : List UInt8) : List (List UInt8) := if cutCode B K c = 0 then cutL (nB B K).toNat K.toNat c else []

def joinCode (B K : Int) (ls : List (List UInt8)) : Int :=
 if chkP B K ≠ 0 then chkP B K else if (ls.length : Int) ≠ nB B K then 8 else if ls.all (fun b => (b.length : Int) == K) = false then 4 else if allZero (ls.flatten.drop B.toNat) = false then 4 else 0
def joinRes (B K : Int) (ls : List (List UInt8)) : List UInt8 := if joinCode B K ls = 0 then ls.flatten.take B.toNat else []

theorem cutCode_good {B K : Int} {n k nb : Nat} (g : Good B K n k nb) {c : List UInt8} (h : c.length = n) : cutCode B K c = 0 ∧ cutRes B K c = cutL nb k c := by
 have e : cutCode B K c = 0 := by
  unfold cutCode
  rw [if_neg (by rw [chkP_good g]; simp), if_neg (by rw [g.eB, h]; simp)]
 refine ⟨e, ?_⟩
 unfold cutRes
 rw [if_pos e, g.eN, g.eK]
 simp

theorem cutCode_zero {B K : Int} {c : List UInt8} (h : cutCode B K c = 0) : ∃ n k nb, Good B K n k nb ∧ c.length = n := by
 unfold cutCode at h
 by_cases hc : chkP B K = 0
 ·rw [if_neg (by simp [hc])] at h
  obtain ⟨n, k, nb, g⟩ := good_of hc
  by_cases hl : (c.length : Int) = B
  ·exact ⟨n, k, nb, g, by have := g.eB; omega⟩
  ·rw [if_pos hl] at h; omega
 ·rw [if_pos hc] at h; exact absurd h hc

theorem all_len_iff {k : Nat} {ls : List (List UInt8)} : ls.all (fun b => (b.length : Int) == (k : Int)) = true ↔ ∀ b ∈ ls, b.length = k := by
 simp only [List.all_eq_true, beq_iff_eq]
 constructor
 ·intro h b hb; have := h b hb; omega
 ·intro h b hb; have := h b hb; omega

theorem joinCode_good {B K : Int} {n k nb : Nat} (g : Good B K n k nb) {ls : List (List UInt8)} (hl : ls.length = nb) (ha : ∀ b ∈ ls, b.length = k) (hz : allZero (ls.flatten.drop n) = true) : joinCode B K ls = 0 ∧ joinRes B K ls = ls.flatten.take n := by
 have eB : B.toNat = n := by have := g.eB; omega
 have e : joinCode B K ls = 0 := by
  unfold joinCode
  rw [if_neg (by rw [chkP_good g]; simp), if_neg (by rw [g.eN, hl]; simp), if_neg (by rw [g.eK, all_len_iff.2 ha]; simp), if_neg (by rw [eB, hz]; simp)]
 refine ⟨e, ?_⟩
 unfold joinRes
 rw [if_pos e, eB]

theorem join_cut {B K : Int} {c : List UInt8} (h : cutCode B K c = 0) : joinCode B K (cutRes B K c) = 0 ∧ joinRes B K (cutRes B K c) = c := by
 obtain ⟨n, k, nb, g, hc⟩ := cutCode_zero h
 obtain ⟨_, e⟩ := cutCode_good g hc
 rw [e]
 have hf := cut_flatten nb k c (by have := g.hi; omega) g.k1
 have hz : allZero ((cutL nb k c).flatten.drop n) = true := by
  rw [hf, List.drop_left' hc]
  exact allZero_zeros _
 obtain ⟨e1, e2⟩ := joinCode_good g (cutL_length nb k c) (cutL_all nb k c) hz
 refine ⟨e1, ?_⟩
 rw [e2, hf, List.take_left' hc]

end Go.Proofs.YtakkajjoeimkdaaGreatDoor

namespace Go.Proofs.YtakkajjoeimkdaaGreatDoor
open Go.RowKit
set_option linter.unusedVariables false
set_option linter.unusedSimpArgs false

theorem div_le {B K : Int} (h : 1 ≤ B) (k : 1 ≤ K) : 0 ≤ (B - 1) / K ∧ (B - 1) / K ≤ B - 1 :=
 ⟨Int.ediv_nonneg (by omega) (by omega), Int.ediv_le_self _ (by omega)⟩

theorem cutBlocks_any (B K : Int) (w : World) (hB : I64 B) (hK : I64 K) :
  Calls Tryz.prog 127 #[.agg #[.int .i64 B, .int .i64 K]] w fun e w' => e = .returned (.int .i64 (nB B K)) ∧ Below w.heap.size w w' := by
 obtain ⟨hB1, hB2⟩ := hB
 obtain ⟨hK1, hK2⟩ := hK
 by_cases h1 : B < 1
 ·go_enter Tryz.func127, Tryz.ntmps127
  go_wp2
  all_goals go_ret
  all_goals exact ⟨ret_int (nB_none (.inl h1)).symm, (Below.refl _ _).alloc (Nat.le_refl _) _⟩
 have h1 : 1 ≤ B := by omega
 by_cases h2 : K < 1
 ·go_enter Tryz.func127, Tryz.ntmps127
  go_wp2
  all_goals go_ret
  all_goals exact ⟨ret_int (nB_none (.inr h2)).symm, (Below.refl _ _).alloc (Nat.le_refl _) _⟩
 have h2 : 1 ≤ K := by omega
 obtain ⟨d1, d2⟩ := div_le h1 h2
 go_enter Tryz.func127, Tryz.ntmps127
 go_wp2
 go_ret
 exact ⟨ret_int (nB_some h1 h2).symm, (Below.refl _ _).alloc (Nat.le_refl _) _⟩

theorem chkP_range {B K : Int} (h : B < 1 ∨ 360 < B ∨ K < 1 ∨ 16 < K) : chkP B K = 3 := if_pos h
theorem chkP_many {B K : Int} (h : ¬ (B < 1 ∨ 360 < B ∨ K < 1 ∨ 16 < K)) (k : 24 < nB B K) : chkP B K = 2 := by rw [chkP, if_neg h, if_pos k]
theorem chkP_ok {B K : Int} (h : ¬ (B < 1 ∨ 360 < B ∨ K < 1 ∨ 16 < K)) (k : ¬ 24 < nB B K) : chkP B K = 0 := by rw [chkP, if_neg h, if_neg k]

theorem chkP_zero {B K : Int} (h : chkP B K = 0) : 1 ≤ B ∧ B ≤ 360 ∧ 1 ≤ K ∧ K ≤ 16 := by
 unfold chkP at h
 split at h
 ·simp at h
 ·omega

theorem cutCheck_any (B K : Int) (w : World) (hB : I64 B) (hK : I64 K) :
  Calls Tryz.prog 102 #[.agg #[.int .i64 B, .int .i64 K]] w fun e w' => e = .returned (.int .i64 (chkP B K)) ∧ Below w.heap.size w w' := by
 by_cases h1 : B < 1
 ·go_enter Tryz.func102, Tryz.ntmps102
  go_wp2
  all_goals go_ret
  all_goals exact ⟨ret_int (chkP_range (.inl h1)).symm, (Below.refl _ _).alloc (Nat.le_refl _) _⟩
 have h1 : 1 ≤ B := by omega
 by_cases h2 : 360 < B
 ·go_enter Tryz.func102, Tryz.ntmps102
  go_wp2
  all_goals go_ret
  all_goals exact ⟨ret_int (chkP_range (.inr (.inl h2))).symm, (Below.refl _ _).alloc (Nat.le_refl _) _⟩
 have h2 : B ≤ 360 := by omega
 by_cases h3 : K < 1
 ·go_enter Tryz.func102, Tryz.ntmps102
  go_wp2
  all_goals go_ret
  all_goals exact ⟨ret_int (chkP_range (.inr (.inr (.inl h3)))).symm, (Below.refl _ _).alloc (Nat.le_refl _) _⟩
 have h3 : 1 ≤ K := by omega
 by_cases h4 : 16 < K
 ·go_enter Tryz.func102, Tryz.ntmps102
  go_wp2
  all_goals go_ret
  all_goals exact ⟨ret_int (chkP_range (.inr (.inr (.inr h4)))).symm, (Below.refl _ _).alloc (Nat.le_refl _) _⟩
 have h4 : K ≤ 16 := by omega
 have hr : Hid (¬ (B < 1 ∨ 360 < B ∨ K < 1 ∨ 16 < K)) := show ¬ (B < 1 ∨ 360 < B ∨ K < 1 ∨ 16 < K) by omega
 by_cases h5 : 24 < nB B K
 ·go_enter Tryz.func102, Tryz.ntmps102
  go_wp2_with fail
  refine (cutBlocks_any B K _ hB hK).mono ?_
  rintro e w1 ⟨rfl, hb⟩
  have hb := boxBelow hb
  go_wp2
  go_ret
  exact ⟨ret_int (chkP_many hr.out h5).symm, hb⟩
 ·go_enter Tryz.func102, Tryz.ntmps102
  go_wp2_with fail
  refine (cutBlocks_any B K _ hB hK).mono ?_
  rintro e w1 ⟨rfl, hb⟩
  have hb := boxBelow hb
  go_wp2
  go_ret
  exact ⟨ret_int (chkP_ok hr.out (Int.not_lt.2 h5)).symm, hb⟩

theorem allZero_no {l : List UInt8} {k : Nat} (h : k < l.length) (hne : ((l[k].toNat : Int) != 0) = true) : allZero l = false := by
 rw [Bool.eq_false_iff]
 intro hz
 simp only [allZero, List.all_eq_true, beq_iff_eq] at hz
 have := hz l[k] (by simp)
 rw [this] at hne
 simp at hne

theorem u8_zero {x : UInt8} (h : ((x.toNat : Int) != 0) = false) : x = 0 := by
 simp at h
 exact UInt8.toNat_inj.1 (by simpa using h)

set_option maxHeartbeats 400000 in
theorem noughts_any (a : Option Addr) (cap : Nat) (l : List UInt8) (w : World) (hn : l.length ≤ maxLen) (ha : Lies w a (bs l)) :
  Calls Tryz.prog 164 #[.slice a l.length cap] w fun e w' => e = .returned (.bool (allZero l)) ∧ w = w' := by
 unfold maxLen at hn
 go_enter Tryz.func164, Tryz.ntmps164
 go_wp2
 go_loop [7] (fun i => ∃ k : Nat, k ≤ l.length ∧ i = .int .i64 k ∧ Hid (allZero (l.take k) = true)) (fun i => l.length - (intOf i).toNat)
 case atStart => exact ⟨0, Nat.zero_le _, rfl, rfl⟩
 case round =>
  obtain ⟨k, hk, rfl, hz⟩ := hrel
  by_cases hlt : k < l.length
  ·obtain ⟨b1, o1, rfl⟩ := ha.some (k := k) (by rw [bs_length]; exact hlt)
   have h1 : w.cell? ⟨b1, o1 + k, none⟩ = some (.int .u8 (l[k].toNat : Int)) := ha.at (bs_get l k hlt)
   clear ha
   cases hne : ((l[k].toNat : Int) != 0) with
   | true =>
    have HZ : Hid (allZero l = false) := allZero_no hlt hne
    go_wp2
    go_ret
    exact ⟨retB HZ.out.symm, rfl⟩
   | false =>
    have HZ : Hid (allZero (l.take (k + 1)) = true) := by
     show allZero (l.take (k + 1)) = true
     have := hz.out
     rw [List.take_succ_eq_append_getElem hlt]
     simp only [allZero, List.all_append, Bool.and_eq_true] at this ⊢
     exact ⟨this, by simp [u8_zero hne]⟩
    go_wp2
    go_round
    case rel => exact ⟨k + 1, by omega, by go_num, HZ⟩
    case measure => simp [intOf]; omega
  ·have HZ : Hid (allZero l = true) := by
    have := hz.out
    rwa [List.take_of_length_le (by omega)] at this
   clear ha
   go_wp2
   go_ret
   exact ⟨retB HZ.out.symm, rfl⟩

structure Hd where
 F : Int
 Q : Int
 T : Int
 L : Int
 B : Int
 K : Int

def Hd.val (h : Hd) : Value := .agg #[.int .i64 h.F, .int .i64 h.Q, .int .i64 h.T, .int .i64 h.L, .int .i64 h.B, .int .i64 h.K]
def Hd.ok (h : Hd) : Prop := I64 h.F ∧ I64 h.Q ∧ I64 h.T ∧ I64 h.L ∧ I64 h.B ∧ I64 h.K

def Hd.fits (h : Hd) : Prop := (0 ≤ h.F ∧ h.F ≤ 3) ∧ (0 ≤ h.T ∧ h.T ≤ 3) ∧ (0 ≤ h.Q ∧ h.Q ≤ 49) ∧ (1 ≤ h.L ∧ h.L ≤ 1000000)

instance (h : Hd) : Decidable h.fits := by unfold Hd.fits; exact inferInstance

def hdCode (h : Hd) : Int := if ¬ h.fits then 3 else if h.F = h.T then 5 else chkP h.B h.K

end Go.Proofs.YtakkajjoeimkdaaGreatDoor
