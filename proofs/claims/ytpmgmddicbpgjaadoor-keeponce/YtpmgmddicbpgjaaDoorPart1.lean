import Derived.Lib.SplitLaws
import Derived.Lib.ParseIntBTie
import Derived.Lib.ItoaLen
import Derived.Lib.ItoaMem
import Derived.Lib.AtoiAllCases
import Derived.Lib.Join
import Derived.WalkKit
import Derived.WalkSpells
import Derived.WalkSmall
import Derived.Deep.OwnRows
import Derived.BigQuiet
import Derived.Deep.QuietTactic
import Derived.Deep.Draws
import Derived.Test.YtpmgmddicbpgjaaDoorRows
/-
  Chapter 7, of no program: the words of a text, numerals and digits, and back.
-/
namespace Go.Proofs.YtpmgmddicbpgjaaDoor
set_option linter.unusedVariables false
set_option linter.unusedSimpArgs false

/-- what stands between blanks -/
def wordsL : List UInt8 → List (List UInt8)
  | [] => [[]]
  | c :: r => if c = 32 then [] :: wordsL r else match wordsL r with
    | [] => [[c]]
    | x :: xs => (c :: x) :: xs

theorem wordsL_ne (l : List UInt8) : wordsL l ≠ [] := by
  cases l with
  | nil => simp [wordsL]
  | cons c r =>
    simp only [wordsL]
    split
    · simp
    · split <;> simp

theorem wordsL_none : ∀ (a : List UInt8), (32 : UInt8) ∉ a → wordsL a = [a]
  | [], _ => rfl
  | c :: r, h => by
    have h1 : ¬ c = 32 := fun e => h (by simp [e])
    have h2 := wordsL_none r (fun e => h (List.mem_cons_of_mem _ e))
    simp only [wordsL, if_neg h1, h2]

theorem wordsL_hit : ∀ (a b : List UInt8), (32 : UInt8) ∉ a → wordsL (a ++ 32 :: b) = a :: wordsL b
  | [], b, _ => by simp [wordsL]
  | c :: r, b, h => by
    have h1 : ¬ c = 32 := fun e => h (by simp [e])
    have h2 := wordsL_hit r b (fun e => h (List.mem_cons_of_mem _ e))
    simp only [List.cons_append, wordsL, if_neg h1, h2]

theorem wordsL_join : ∀ (ws : List (List UInt8)), ws ≠ [] → (∀ x ∈ ws, (32 : UInt8) ∉ x) → wordsL (Lib.join ws [32]) = ws
  | [], h, _ => absurd rfl h
  | [x], _, h => by rw [Lib.join_one, wordsL_none x (h x (by simp))]
  | x :: y :: r, _, h => by
    have ih := wordsL_join (y :: r) (by simp) (fun z hz => h z (List.mem_cons_of_mem _ hz))
    have e : Lib.join (x :: y :: r) [32] = x ++ 32 :: Lib.join (y :: r) [32] := by
      rw [Lib.join_cons, Lib.join_cons]; simp [Lib.joinTail]
    rw [e, wordsL_hit x _ (h x (by simp)), ih]

theorem join_wordsL : ∀ (s : List UInt8), Lib.join (wordsL s) [32] = s
  | [] => by simp [wordsL, Lib.join_one]
  | c :: r => by
    have ih := join_wordsL r
    by_cases h : c = 32
    · subst h
      simp only [wordsL, if_pos]
      cases hw : wordsL r with
      | nil => exact absurd hw (wordsL_ne r)
      | cons x xs =>
        rw [hw] at ih
        rw [Lib.join_cons] at ih ⊢
        simp [Lib.joinTail] at ih ⊢
        exact ih
    · simp only [wordsL, if_neg h]
      cases hw : wordsL r with
      | nil => exact absurd hw (wordsL_ne r)
      | cons x xs =>
        rw [hw] at ih
        simp only
        rw [Lib.join_cons] at ih ⊢
        rw [List.cons_append, ih]

theorem wordsL_free : ∀ (s : List UInt8), ∀ x ∈ wordsL s, (32 : UInt8) ∉ x
  | [], x, h => by simp [wordsL] at h; subst h; simp
  | c :: r, x, h => by
    have ih := wordsL_free r
    simp only [wordsL] at h
    split at h
    · rcases List.mem_cons.1 h with rfl | h
      · simp
      · exact ih x h
    · rename_i hc
      cases hw : wordsL r with
      | nil => exact absurd hw (wordsL_ne r)
      | cons y ys =>
        rw [hw] at h ih
        rcases List.mem_cons.1 h with rfl | h
        · intro e
          rcases List.mem_cons.1 e with e | e
          · exact hc e.symm
          · exact ih y (by simp) e
        · exact ih x (List.mem_cons_of_mem _ h)

theorem wordsL_index (s : List UInt8) : (Lib.index s [32] = -1 ∧ wordsL s = [s]) ∨ ∃ i : Nat, Lib.index s [32] = i ∧ i < s.length ∧ wordsL s = s.take i :: wordsL (s.drop (i + 1)) := by
  have occ : ∀ j, Lib.occAt s [32] j = true ↔ s[j]? = some 32 := by
    intro j
    simp only [Lib.occAt]
    rw [← List.head?_drop]
    cases s.drop j with
    | nil => simp
    | cons a b =>
      simp only [List.isPrefixOf, Bool.and_true, beq_iff_eq, List.head?_cons, Option.some.injEq]
      exact ⟨fun e => e.symm, fun e => e.symm⟩
  rcases Lib.index_spec s [32] with ⟨h1, h2⟩ | ⟨i, h1, hi, h2, h3⟩
  · left
    refine ⟨h1, wordsL_none s ?_⟩
    intro hm
    obtain ⟨j, hj, e⟩ := List.getElem_of_mem hm
    have := (occ j).2 (by rw [List.getElem?_eq_getElem hj, e])
    rw [h2 j (by omega)] at this
    simp at this
  · right
    have hs := (occ i).1 h2
    have hl : i < s.length := by
      rcases Nat.lt_or_ge i s.length with h | h
      · exact h
      · rw [List.getElem?_eq_none h] at hs; simp at hs
    refine ⟨i, h1, hl, ?_⟩
    have e : s = s.take i ++ 32 :: s.drop (i + 1) := by
      have h4 : s[i] = 32 := by rw [List.getElem?_eq_getElem hl] at hs; simpa using hs
      rw [← h4, List.getElem_cons_drop]
      simp
    conv => lhs; rw [e]
    refine wordsL_hit _ _ ?_
    intro hm
    obtain ⟨j, hj, e⟩ := List.getElem_of_mem hm
    rw [List.length_take] at hj
    have hj' : j < i := by omega
    have h5 := (occ j).2 (by rw [List.getElem?_eq_getElem (by omega)]; simpa using e)
    have h6 := h3 j hj'
    simp [h5] at h6

theorem split_words : ∀ (k : Nat) (s : List UInt8), Lib.count s [32] = k → Lib.splitK [32] 0 k s = wordsL s
  | 0, s, h => by
    rcases wordsL_index s with ⟨h1, h2⟩ | ⟨i, h1, hi, h2⟩
    · rw [h2]; rfl
    · rw [Lib.count_hit (by simp) h1] at h; omega
  | k + 1, s, h => by
    rcases wordsL_index s with ⟨h1, h2⟩ | ⟨i, h1, hi, h2⟩
    · rw [Lib.count_miss h1] at h; omega
    · rw [Lib.count_hit (by simp) h1] at h
      have ih := split_words k (s.drop (i + 1)) (by simp at h; omega)
      rw [h2, Lib.splitK, h1]
      simp [ih]

/-! ### Numerals -/

theorem parse_append : ∀ (a b : List UInt8) (acc u : Nat), Lib.parseUint10 acc a = .ok u → Lib.parseUint10 acc (a ++ b) = Lib.parseUint10 u b
  | [], b, acc, u, h => by simp only [Lib.parseUint10] at h; injection h with h; subst h; rfl
  | c :: r, b, acc, u, h => by
    simp only [List.cons_append, Lib.parseUint10] at h ⊢
    split at h
    · split at h
      · cases h
      · split at h
        · cases h
        · rename_i h1 h2 h3
          rw [if_pos h1, if_neg h2, if_neg h3]
          exact parse_append r b _ u h
    · cases h

theorem digit_toNat (d : Nat) (h : d < 10) : (UInt8.ofNat (48 + d)).toNat = 48 + d := by
  rw [UInt8.toNat_ofNat']; omega

theorem parse_dec (u : Nat) (h : u < 18446744073709551616) : Lib.parseUint10 0 (Lib.decDigits u) = .ok u := by
  induction u using Nat.strongRecOn with
  | ind u ih =>
    rw [Lib.decDigits]
    by_cases hs : u < 10
    · rw [dif_pos hs]
      simp only [Lib.parseUint10, digit_toNat u hs]
      rw [if_pos (by omega), if_neg (by omega), if_neg (by omega)]
      congr 1; omega
    · rw [dif_neg hs, parse_append _ _ 0 (u / 10) (ih (u / 10) (by omega) (by omega))]
      simp only [Lib.parseUint10, digit_toNat (u % 10) (by omega)]
      rw [if_pos (by omega), if_neg (by omega), if_neg (by omega)]
      congr 1; omega

theorem dec_digits (u : Nat) : ∀ c ∈ Lib.decDigits u, 48 ≤ c.toNat ∧ c.toNat ≤ 57 := by
  induction u using Nat.strongRecOn with
  | ind u ih =>
    intro c hc
    rw [Lib.decDigits] at hc
    by_cases hs : u < 10
    · rw [dif_pos hs] at hc
      simp only [List.mem_singleton] at hc
      subst hc
      rw [digit_toNat u hs]; omega
    · rw [dif_neg hs] at hc
      rcases List.mem_append.1 hc with h | h
      · exact ih (u / 10) (by omega) c h
      · simp only [List.mem_singleton] at h
        subst h
        rw [digit_toNat _ (by omega)]; omega

theorem dec_ne (u : Nat) : Lib.decDigits u ≠ [] := by
  rw [Lib.decDigits]
  split <;> simp

theorem mag_dec (u : Nat) (h : u < 18446744073709551616) : Lib.parseMag (Lib.decDigits u) = .ok u := by
  rw [Lib.parseMag, if_neg (dec_ne u), parse_dec u h]

theorem atoi_itoa (n : Int) (h0 : -9223372036854775808 ≤ n) (h1 : n ≤ 9223372036854775807) : Lib.atoiAll (Lib.itoa n) = .ok n := by
  unfold Lib.itoa
  by_cases hn : n < 0
  · rw [if_pos hn]
    have e := mag_dec n.natAbs (by omega)
    simp only [Lib.atoiAll, show (45 : UInt8).toNat = 45 from rfl, or_true, if_true, e]
    rw [if_neg (by simp), if_neg (by omega)]
    congr 1; omega
  · rw [if_neg hn]
    have e := mag_dec n.toNat (by omega)
    cases hd : Lib.decDigits n.toNat with
    | nil => exact absurd hd (dec_ne _)
    | cons c r =>
      have hc := dec_digits n.toNat c (by rw [hd]; simp)
      have c43 : ¬ c.toNat = 43 := by omega
      have c45 : ¬ c.toNat = 45 := by omega
      rw [hd] at e
      simp only [Lib.atoiAll, c43, c45, or_self, if_false, e]
      rw [if_neg (by omega), if_neg (by simp)]
      congr 1; omega

theorem itoa_free (n : Int) : (32 : UInt8) ∉ Lib.itoa n := by
  have hd : ∀ u, (32 : UInt8) ∉ Lib.decDigits u := by
    intro u h
    have := dec_digits u 32 h
    simp at this
  unfold Lib.itoa
  split
  · intro h
    rcases List.mem_cons.1 h with h | h
    · cases h
    · exact hd _ h
  · exact hd _

/-- the number that a word writes, as Itoa would -/
def numW (x : List UInt8) : Option Int :=
  match Lib.atoiAll x with
  | .ok v => if Lib.itoa v = x then some v else none
  | _ => none

theorem numW_itoa (n : Int) (h0 : -9223372036854775808 ≤ n) (h1 : n ≤ 9223372036854775807) : numW (Lib.itoa n) = some n := by
  simp [numW, atoi_itoa n h0 h1]

theorem numW_back {x : List UInt8} {n : Int} (h : numW x = some n) : Lib.itoa n = x ∧ -9223372036854775808 ≤ n ∧ n ≤ 9223372036854775807 := by
  unfold numW at h
  split at h
  · rename_i v hv
    split at h
    · rename_i hx
      injection h with h
      subst h
      exact ⟨hx, Lib.atoiAll_bounds hv⟩
    · cases h
  · cases h

/-! ### Bytes as digits -/

/-- the sixteen digits -/
def digsL : List UInt8 := [48, 49, 50, 51, 52, 53, 54, 55, 56, 57, 97, 98, 99, 100, 101, 102]

def dig (n : Nat) : UInt8 := digsL.getD n 0

/-- two digits for each byte -/
def hexL (l : List UInt8) : List UInt8 := l.flatMap fun b => [dig (b.toNat / 16), dig (b.toNat % 16)]

/-- the word of a list of bytes -/
def hexW (l : List UInt8) : List UInt8 := 45 :: hexL l

theorem hexL_nil : hexL [] = [] := rfl
theorem hexL_cons (b : UInt8) (l : List UInt8) : hexL (b :: l) = dig (b.toNat / 16) :: dig (b.toNat % 16) :: hexL l := by simp [hexL]
theorem hexL_append (a b : List UInt8) : hexL (a ++ b) = hexL a ++ hexL b := by simp [hexL]

theorem hexL_len (l : List UInt8) : (hexL l).length = 2 * l.length := by
  induction l with
  | nil => rfl
  | cons b l ih => rw [hexL_cons]; simp [ih]; omega

/-- the place of a digit, as IndexByte tells it -/
def digI (c : UInt8) : Int := Lib.indexByte digsL c

theorem digI_dig : ∀ n, n < 16 → digI (dig n) = n := by decide

theorem digI_all : ∀ c : UInt8, digI c = -1 ∨ (0 ≤ digI c ∧ digI c < 16 ∧ dig (digI c).toNat = c) := by
  intro c
  by_cases h : c ∈ digsL
  · right
    simp only [digsL, List.mem_cons, List.not_mem_nil, or_false] at h
    rcases h with h | h | h | h | h | h | h | h | h | h | h | h | h | h | h | h <;> subst h <;> decide
  · left
    have gen : ∀ l : List UInt8, c ∉ l → Lib.indexByte l c = -1 := by
      intro l
      induction l with
      | nil => intro _; rfl
      | cons b l ih =>
        intro hm
        have h1 : ¬ (b == c) = true := by simp; intro e; exact hm (by simp [e])
        have h2 := ih (fun e => hm (List.mem_cons_of_mem _ e))
        rw [Lib.indexByte, if_neg h1, h2]; rfl
    exact gen _ h

theorem dig_ne : ∀ n, n < 16 → dig n ≠ 32 := by decide

theorem hexL_free (l : List UInt8) : (32 : UInt8) ∉ hexL l := by
  induction l with
  | nil => simp [hexL]
  | cons b l ih =>
    rw [hexL_cons]
    intro h
    rcases List.mem_cons.1 h with h | h
    · exact dig_ne _ (by have := b.toNat_lt; omega) h.symm
    · rcases List.mem_cons.1 h with h | h
      · exact dig_ne _ (by omega) h.symm
      · exact ih h

theorem hexW_free (l : List UInt8) : (32 : UInt8) ∉ hexW l := by
  intro h
  rcases List.mem_cons.1 h with h | h
  · cases h
  · exact hexL_free l h

/-- the bytes of digits; none where one is no digit, or one is alone -/
def unhex : List UInt8 → Option (List UInt8)
  | [] => some []
  | [_] => none
  | a :: b :: r => if digI a < 0 ∨ digI b < 0 then none else (unhex r).map (UInt8.ofNat ((digI a).toNat * 16 + (digI b).toNat) :: ·)

/-- the bytes of a word -/
def byW : List UInt8 → Option (List UInt8)
  | 45 :: r => unhex r
  | _ => none

theorem unhex_hex : ∀ l, unhex (hexL l) = some l
  | [] => rfl
  | b :: l => by
    have hb := b.toNat_lt
    have h1 := digI_dig (b.toNat / 16) (by omega)
    have h2 := digI_dig (b.toNat % 16) (by omega)
    rw [hexL_cons, unhex, h1, h2, if_neg (by omega), unhex_hex l]
    simp only [Option.map_some, Int.toNat_natCast]
    rw [show b.toNat / 16 * 16 + b.toNat % 16 = b.toNat by omega]
    simp

theorem hex_unhex : ∀ (x l : List UInt8), unhex x = some l → hexL l = x
  | [], l, h => by simp [unhex] at h; subst h; rfl
  | [_], l, h => by simp [unhex] at h
  | a :: b :: r, l, h => by
    rw [unhex] at h
    split at h
    · cases h
    · rename_i hn
      cases hr : unhex r with
      | none => rw [hr] at h; cases h
      | some m =>
        rw [hr] at h
        simp only [Option.map_some, Option.some.injEq] at h
        subst h
        have ih := hex_unhex r m hr
        rcases digI_all a with ha | ⟨a0, a1, a2⟩
        · exact absurd (Or.inl (by omega)) hn
        · rcases digI_all b with hb | ⟨b0, b1, b2⟩
          · exact absurd (Or.inr (by omega)) hn
          · have e : (UInt8.ofNat ((digI a).toNat * 16 + (digI b).toNat)).toNat = (digI a).toNat * 16 + (digI b).toNat := by
              rw [UInt8.toNat_ofNat']; omega
            rw [hexL_cons, e, ih, show ((digI a).toNat * 16 + (digI b).toNat) / 16 = (digI a).toNat by omega, show ((digI a).toNat * 16 + (digI b).toNat) % 16 = (digI b).toNat by omega, a2, b2]

theorem byW_hexW (l : List UInt8) : byW (hexW l) = some l := unhex_hex l

theorem hexW_byW {x l : List UInt8} (h : byW x = some l) : hexW l = x := by
  unfold byW at h
  split at h
  · rw [hexW, hex_unhex _ _ h]
  · cases h

theorem unhex_odd : ∀ (x : List UInt8), x.length % 2 ≠ 0 → unhex x = none
  | [], h => absurd rfl h
  | [_], _ => rfl
  | a :: b :: r, h => by
    have := unhex_odd r (by simp at h ⊢; omega)
    rw [unhex, this]
    split <;> rfl

theorem unhex_len {x l : List UInt8} (h : unhex x = some l) : x.length = 2 * l.length := by
  rw [← hex_unhex x l h, hexL_len]

theorem unhex_append : ∀ (x y a : List UInt8), unhex x = some a → unhex (x ++ y) = (unhex y).map (a ++ ·)
  | [], y, a, h => by
    simp [unhex] at h
    subst h
    rw [List.nil_append]
    cases unhex y <;> rfl
  | [_], y, a, h => by simp [unhex] at h
  | c :: d :: r, y, a, h => by
    rw [unhex] at h
    split at h
    · cases h
    · rename_i hn
      cases hr : unhex r with
      | none => rw [hr] at h; cases h
      | some m =>
        rw [hr] at h
        simp only [Option.map_some, Option.some.injEq] at h
        subst h
        rw [List.cons_append, List.cons_append, unhex, if_neg hn, unhex_append r y m hr]
        cases unhex y <;> simp

end Go.Proofs.YtpmgmddicbpgjaaDoor

/-
  What a slice's cells hold, said once, without any program: 'Lies w a xs'. And how that carries over worlds in which nothing old has turned.
-/
namespace Go.Proofs.YtpmgmddicbpgjaaDoor
open Go.RowKit
set_option linter.unusedVariables false
set_option linter.unusedSimpArgs false

/-- The cells that begin at 'a' hold xs, one cell an element. -/
def Lies (w : World) (a : Option Addr) (xs : List Value) : Prop :=
  ∀ k u, xs[k]? = some u → ∃ b off, a = some ⟨b, off, none⟩ ∧ w.cell? ⟨b, off + k, none⟩ = some u

theorem Lies.nil (w : World) (a : Option Addr) : Lies w a [] := by
  intro k u h
  simp at h

theorem Lies.lt {w : World} {a : Option Addr} {xs : List Value} (h : Lies w a xs) {b off : Nat} (e : a = some ⟨b, off, none⟩) (k : Nat) (hk : k < xs.length) :
    w.cell? ⟨b, off + k, none⟩ = some xs[k] := by
  obtain ⟨b', off', e', hc⟩ := h k xs[k] (by simp [hk])
  rw [e] at e'
  simp at e'
  obtain ⟨rfl, rfl⟩ := e'
  exact hc

theorem Lies.some {w : World} {a : Option Addr} {xs : List Value} (h : Lies w a xs) {k : Nat} (hk : k < xs.length) : ∃ b off, a = .some ⟨b, off, none⟩ := by
  obtain ⟨b, off, e, _⟩ := h k xs[k] (by simp [hk])
  exact ⟨b, off, e⟩

theorem Lies.at {w : World} {b off : Nat} {xs : List Value} (h : Lies w (.some ⟨b, off, none⟩) xs) {k : Nat} {u : Value} (hu : xs[k]? = .some u) : w.cell? ⟨b, off + k, none⟩ = .some u := by
  obtain ⟨b', off', e', hc⟩ := h k u hu
  simp at e'
  obtain ⟨rfl, rfl⟩ := e'
  exact hc

theorem Lies.mk {w : World} {b off : Nat} {xs : List Value} (h : ∀ k (hk : k < xs.length), w.cell? ⟨b, off + k, none⟩ = .some xs[k]) : Lies w (.some ⟨b, off, none⟩) xs := by
  intro k u hu
  obtain ⟨hk, rfl⟩ := List.getElem?_eq_some_iff.1 hu
  exact ⟨b, off, rfl, h k hk⟩

/-- All that lies is old: whatever keeps the old blocks keeps it. -/
theorem Lies.below {w w' : World} {B : Nat} (hb : Below B w w') {a : Option Addr} {xs : List Value} (h : Lies w a xs) (hB : w.heap.size ≤ B) : Lies w' a xs := by
  intro k u hu
  obtain ⟨b, off, e, hc⟩ := h k u hu
  refine ⟨b, off, e, ?_⟩
  have := World.block_lt_of_cell? w _ hc
  rw [hb.cell (p := ⟨b, off + k, none⟩) (by simp at this ⊢; omega)]
  exact hc

theorem Lies.drewN {w : World} {a : Option Addr} {xs : List Value} (h : Lies w a xs) (n : Nat) : Lies (w.drewN n) a xs := by
  intro k u hu
  obtain ⟨b, off, e, hc⟩ := h k u hu
  exact ⟨b, off, e, by simpa using hc⟩

theorem bdn (w : World) (n B : Nat) : Below B w (w.drewN n) := by
  induction n with
  | zero => exact Below.refl _ _
  | succ n ih => exact ih.trans (by first | exact (Below.refl _ _).drew | simpa using (Below.refl _ _).drew)

/-- A block that is laid anew lies there. -/
theorem Lies.alloc_new (w : World) (c : Array Value) (t : TypeId) : Lies (w.alloc (.cells c t)) (.some ⟨w.heap.size, 0, none⟩) c.toList := by
  refine Lies.mk fun k hk => ?_
  have e : (w.alloc (.cells c t)).heap[w.heap.size]? = .some (.cells c t) := by show (w.heap.push _)[w.heap.size]? = _; simp
  simp only [World.cell?, e]
  simp at hk ⊢

theorem Lies.alloc {w : World} {a : Option Addr} {xs : List Value} (h : Lies w a xs) (o : Obj) : Lies (w.alloc o) a xs :=
  h.below ((Below.refl w.heap.size w).alloc (Nat.le_refl _) o) (Nat.le_refl _)

theorem Lies.of_block {w : World} {b : Nat} {c : Array Value} {t : TypeId} {f : Nat × Nat} (e : w.heap[b]? = .some (.cells c t f)) : Lies w (.some ⟨b, 0, none⟩) c.toList := by
  refine Lies.mk fun k hk => ?_
  simp only [World.cell?, e]
  simp at hk ⊢

/-- The blocks that are laid, one behind the other. -/
theorem heap_alloc_eq (w : World) (o : Obj) (b : Nat) : (w.alloc o).heap[b]? = if b = w.heap.size then some o else w.heap[b]? := by
  show (w.heap.push o)[b]? = _
  rw [Array.getElem?_push]

theorem size_alloc_eq (w : World) (o : Obj) : (w.alloc o).heap.size = w.heap.size + 1 := by simp

theorem grown_drewN {w w' : World} (h : Grown w w') (n : Nat) : Grown w (w'.drewN n) := h

/-- What a slice owns lies at its head. -/
theorem own_lies {w : World} {B : Nat} {e : TypeId} {v : Value} {n : Nat} {xs : List Value} (h : w.ownsRow B e 1 v n xs) : ∃ a cap, v = .slice a n cap ∧ Lies w a xs ∧ n = xs.length := by
  have hn : n = xs.length := by simpa using h.1.symm
  rcases h.2 with ⟨rfl, h0⟩ | ⟨g, cap, cur, rfl, hb, hg, hnc, hcm, hcs, htake⟩
  · subst h0
    have : xs = [] := List.eq_nil_of_length_eq_zero hn.symm
    subst this
    exact ⟨none, 0, rfl, Lies.nil _ _, rfl⟩
  · refine ⟨_, cap, rfl, Lies.mk fun k hk => ?_, hn⟩
    simp only [World.cell?, hg]
    have h2 : xs[k]? = cur.toList[k]? := by
      rw [← htake, List.getElem?_take, if_pos (by omega)]
    simp at h2
    simp [← h2]

theorem grown_trans {a b c : World} {row : Option Nat} (h : a.grownBy b row) (k : b.grownBy c row) : a.grownBy c row :=
  ⟨k.os.trans h.os, k.tape.trans h.tape, k.output.trans h.output, Nat.le_trans h.size k.size, fun i hi hr => (k.block i (by have := h.size; omega) hr).trans (h.block i hi hr)⟩

theorem grown_refl (a : World) (row : Option Nat) : a.grownBy a row := ⟨rfl, rfl, rfl, Nat.le_refl _, fun _ _ _ => rfl⟩

theorem grown_setCell (w : World) (g o : Nat) (v : Value) : w.grownBy (w.setCell ⟨g, o, none⟩ v) (some g) :=
  ⟨rfl, rfl, rfl, by simp [World.setCell], fun k hk hr => Below.heap_setCell _ _ _ _ (fun e => hr (by simp [e]))⟩

theorem lies_grown {w w' : World} {g : Nat} (h : w.grownBy w' (some g)) {a : Option Addr} {xs : List Value} (hl : Lies w a xs) (hne : ∀ b off, a = some ⟨b, off, none⟩ → b ≠ g) : Lies w' a xs := by
  intro k u hu
  obtain ⟨b, off, e, hc⟩ := hl k u hu
  exact ⟨b, off, e, h.cell hc (by have := hne b off e; simp; exact this)⟩

/-- bytes as cells -/
def bs (l : List UInt8) : List Value := l.map fun x => Value.int .u8 (x.toNat : Int)

theorem bs_length (l : List UInt8) : (bs l).length = l.length := by simp [bs]

theorem u8_lt (x : UInt8) : (x.toNat : Int) < 256 := by have := x.toNat_lt; omega

theorem bs_get (l : List UInt8) (k : Nat) (h : k < l.length) : (bs l)[k]? = some (.int .u8 (l[k].toNat : Int)) := by simp [bs, h]

end Go.Proofs.YtpmgmddicbpgjaaDoor

/-
  Small lemmas of no program, used by all layers.
-/
namespace Go.Proofs.YtpmgmddicbpgjaaDoor
open Go.RowKit
set_option linter.unusedVariables false
set_option linter.unusedSimpArgs false

/-- an int of Go's -/
def I64 (x : Int) : Prop := -9223372036854775808 ≤ x ∧ x ≤ 9223372036854775807

/-- a fact kept from the walk: unlike Hid no unification looks into it -/
structure Shut (p : Prop) : Prop where
  out : p

theorem ret_bool {a b : Bool} (h : a = b) : Ending.returned (.bool a) = .returned (.bool b) := by rw [h]
theorem ret_int {k : IntKind} {a b : Int} (h : a = b) : Ending.returned (.int k a) = .returned (.int k b) := by rw [h]

theorem retB {a b : Bool} (h : a = b) : Ending.returned (.bool a) = .returned (.bool b) := by rw [h]

theorem ret2 {x y x' y' : Value} (h : x = x') (k : y = y') : Ending.returned (.tuple #[x, y]) = .returned (.tuple #[x', y']) := by rw [h, k]

theorem bcell {W w1 : World} (hb : Below W.heap.size W w1) : (∀ b o, b < W.heap.size → w1.cell? ⟨b, o, none⟩ = W.cell? ⟨b, o, none⟩) ∧ (∀ b o, b < W.heap.size → w1.frozen? ⟨b, o, none⟩ = W.frozen? ⟨b, o, none⟩) :=
  ⟨fun b o h => hb.cell (p := ⟨b, o, none⟩) h, fun b o h => hb.frozen (p := ⟨b, o, none⟩) h⟩

theorem Hid.mk' {p : Prop} (h : p) : Hid p := h

theorem boxBelow {w w1 : World} {o : Obj} (h : Below (w.alloc o).heap.size (w.alloc o) w1) : Below w.heap.size w w1 :=
  ((Below.refl _ _).alloc (Nat.le_refl _) o).trans (h.mono (by simp))

theorem rowIs_lies {w : World} {g n : Nat} {t : TypeId} {f : Nat → Value} (h : w.rowIs g t n f) : Lies w (some ⟨g, 0, none⟩) ((List.range n).map f) := by
  refine Lies.mk fun k hk => ?_
  have hk' : k < n := by simpa using hk
  rw [Nat.zero_add, h.cell hk']
  simp

theorem own_slice {w : World} {B : Nat} {e : TypeId} {v : Value} {n : Nat} {xs : List Value} (h : w.ownsRow B e 1 v n xs) : ∃ p q, v = .slice p n q ∧ n ≤ q := by
  rcases h.2 with ⟨rfl, h0⟩ | ⟨g, cap, cur, rfl, hb, hg, hnc, hcm, hcs, htake⟩
  · subst h0
    exact ⟨none, 0, rfl, Nat.le_refl _⟩
  · exact ⟨_, _, rfl, hnc⟩

theorem own_below {w w' : World} {B : Nat} {e : TypeId} {v : Value} {n : Nat} {xs : List Value} (h : w.ownsRow B e 1 v n xs) (hb : Below w.heap.size w w') : w'.ownsRow B e 1 v n xs := by
  refine ⟨h.1, ?_⟩
  rcases h.2 with h0 | ⟨g, cap, cur, rfl, hbg, hg, hnc, hcm, hcs, htake⟩
  · exact .inl h0
  · have hlt : g < w.heap.size := (Array.getElem?_eq_some_iff.1 hg).1
    exact .inr ⟨g, cap, cur, rfl, hbg, by rw [hb.block g hlt]; exact hg, hnc, hcm, hcs, htake⟩

theorem own_mono {w : World} {B B' : Nat} {e : TypeId} {v : Value} {n : Nat} {xs : List Value} (h : w.ownsRow B e 1 v n xs) (hB : B' ≤ B) : w.ownsRow B' e 1 v n xs := by
  refine ⟨h.1, ?_⟩
  rcases h.2 with h0 | ⟨g, cap, cur, rfl, hbg, hg, hnc, hcm, hcs, htake⟩
  · exact .inl h0
  · exact .inr ⟨g, cap, cur, rfl, by omega, hg, hnc, hcm, hcs, htake⟩

theorem own_row {w : World} {B : Nat} {e : TypeId} {v : Value} {n : Nat} {xs : List Value} (h : w.ownsRow B e 1 v n xs) (hn : 0 < n) :
    ∃ g cap f, v = .slice (some ⟨g, 0, none⟩) n cap ∧ B ≤ g ∧ w.rowIs g e cap f ∧ n ≤ cap ∧ cap ≤ maxLen ∧ ∀ i (hi : i < xs.length), f i = xs[i] := by
  rcases h.2 with ⟨rfl, h0⟩ | ⟨g, cap, cur, rfl, hb, hg, hnc, hcm, hcs, htake⟩
  · omega
  · refine ⟨g, cap, fun i => cur[i]?.getD undef, rfl, hb, ⟨cur, hg, by omega, fun i hi => by simp [show i < cur.size by omega]⟩, hnc, hcm, fun i hi => ?_⟩
    have h2 : xs[i]? = cur.toList[i]? := by
      rw [← htake, List.getElem?_take, if_pos (by have := h.1; omega)]
    simp at h2
    show cur[i]?.getD undef = xs[i]
    rw [← h2]
    simp [hi]

theorem row_lies' {w : World} {g cap : Nat} {e : TypeId} {f : Nat → Value} (h : w.rowIs g e cap f) (xs : List Value) (hn : xs.length ≤ cap) (hx : ∀ i (hi : i < xs.length), f i = xs[i]) : Lies w (some ⟨g, 0, none⟩) xs := by
  refine Lies.mk fun k hk => ?_
  rw [Nat.zero_add, h.cell (by omega), hx k hk]

end Go.Proofs.YtpmgmddicbpgjaaDoor

/-
  Chapter 1 in plain functions on lists: what Check answers, what a sum is. Nothing of any program.
-/
namespace Go.Proofs.YtpmgmddicbpgjaaDoor
set_option linter.unusedVariables false
set_option linter.unusedSimpArgs false

/-- a block in memory: where it begins, its capacity, its bytes -/
structure Blk where
  a : Option Addr
  cap : Nat
  l : List UInt8

def Blk.val (b : Blk) : Value := .slice b.a b.l.length b.cap

/-- each lies there, none too long for a slice -/
def AllIn (w : World) (bl : List Blk) : Prop := ∀ b ∈ bl, Lies w b.a (bs b.l) ∧ b.l.length ≤ maxLen

def lens (bl : List Blk) : List Nat := bl.map fun b => b.l.length

/-- chapter 1's Check, f: the first one's length -/
def chkFrom (f : Nat) : List Nat → Int
  | [] => 0
  | n :: r => if n < 1 ∨ 16 < n then 2 else if n ≠ f then 4 else chkFrom f r

def chk (l : List Nat) : Int := chkFrom (l.headD 0) l

/-- the same, each held against the one ahead -/
def chkPrev : Option Nat → List Nat → Int
  | _, [] => 0
  | none, n :: r => if n < 1 ∨ 16 < n then 2 else chkPrev (some n) r
  | some p, n :: r => if n < 1 ∨ 16 < n then 2 else if n ≠ p then 4 else chkPrev (some n) r

theorem chkPrev_some (p : Nat) (l : List Nat) : chkPrev (some p) l = chkFrom p l := by
  induction l with
  | nil => rfl
  | cons n r ih =>
    simp only [chkPrev, chkFrom]
    by_cases h : n < 1 ∨ 16 < n
    · rw [if_pos h, if_pos h]
    · rw [if_neg h, if_neg h]
      by_cases e : n = p
      · subst e; rw [if_neg (by simp), if_neg (by simp), ih]
      · rw [if_pos e, if_pos e]

theorem chkPrev_none (l : List Nat) : chkPrev none l = chk l := by
  cases l with
  | nil => rfl
  | cons n r => simp [chkPrev, chk, chkFrom, chkPrev_some]

/-- as far as k nothing was wrong -/
def okTo (f : Nat) (l : List Nat) (k : Nat) : Prop := ∀ i (h : i < l.length), i < k → 1 ≤ l[i] ∧ l[i] ≤ 16 ∧ l[i] = f

theorem okTo_zero (f : Nat) (l : List Nat) : okTo f l 0 := fun i h hk => by omega

theorem okTo_succ {f : Nat} {l : List Nat} {k : Nat} (h : okTo f l k) (hk : k < l.length) (h1 : 1 ≤ l[k]) (h2 : l[k] ≤ 16) (h3 : l[k] = f) : okTo f l (k + 1) := by
  intro i hi hik
  by_cases e : i = k
  · subst e; exact ⟨h1, h2, h3⟩
  · exact h i hi (by omega)

theorem chkFrom_all {f : Nat} {l : List Nat} (h : okTo f l l.length) : chkFrom f l = 0 := by
  induction l with
  | nil => rfl
  | cons n r ih =>
    have h0 := h 0 (by simp) (by simp)
    simp only [List.getElem_cons_zero] at h0
    have hr : okTo f r r.length := fun i hi _ => by
      have := h (i + 1) (by simp; omega) (by simp; omega)
      simpa using this
    simp only [chkFrom]
    rw [if_neg (by omega), if_neg (by omega), ih hr]

theorem chkFrom_at {f : Nat} {l : List Nat} {k : Nat} (h : okTo f l k) (hk : k < l.length) :
    (l[k] < 1 ∨ 16 < l[k] → chkFrom f l = 2) ∧ (¬ (l[k] < 1 ∨ 16 < l[k]) → l[k] ≠ f → chkFrom f l = 4) := by
  induction l generalizing k with
  | nil => simp at hk
  | cons n r ih =>
    cases k with
    | zero =>
      simp only [List.getElem_cons_zero]
      exact ⟨fun hb => by rw [chkFrom, if_pos hb], fun hb hf => by rw [chkFrom, if_neg hb, if_pos hf]⟩
    | succ k =>
      have h0 := h 0 (by simp) (by omega)
      simp only [List.getElem_cons_zero] at h0
      have hr : okTo f r k := fun i hi hik => by
        have := h (i + 1) (by simp; omega) (by omega)
        simpa using this
      have := ih hr (by simpa using hk)
      simp only [List.getElem_cons_succ]
      simp only [chkFrom]
      rw [if_neg (by omega), if_neg (by omega)]
      exact this

theorem chk_zero {l : List Nat} (h : chk l = 0) : ∀ i (hi : i < l.length), 1 ≤ l[i] ∧ l[i] ≤ 16 ∧ l[i] = l.headD 0 := by
  have : ∀ (f : Nat) (l : List Nat), chkFrom f l = 0 → ∀ i (hi : i < l.length), 1 ≤ l[i] ∧ l[i] ≤ 16 ∧ l[i] = f := by
    intro f l
    induction l with
    | nil => intro _ i hi; simp at hi
    | cons n r ih =>
      intro h i hi
      simp only [chkFrom] at h
      by_cases hb : n < 1 ∨ 16 < n
      · rw [if_pos hb] at h; omega
      · rw [if_neg hb] at h
        by_cases e : n = f
        · rw [if_neg (by simp [e])] at h
          cases i with
          | zero => simp only [List.getElem_cons_zero]; omega
          | succ i => simpa using ih h i (by simpa using hi)
        · rw [if_pos e] at h; omega
  exact this _ _ h

theorem chk_range (l : List Nat) : chk l = 0 ∨ chk l = 2 ∨ chk l = 4 := by
  have : ∀ (f : Nat) (l : List Nat), chkFrom f l = 0 ∨ chkFrom f l = 2 ∨ chkFrom f l = 4 := by
    intro f l
    induction l with
    | nil => exact .inl rfl
    | cons n r ih =>
      simp only [chkFrom]
      split
      · exact .inr (.inl rfl)
      · split
        · exact .inr (.inr rfl)
        · exact ih
  exact this _ _

/-- two blocks, added -/
def xorl (a b : List UInt8) : List UInt8 := List.zipWith (fun x y => x ^^^ y) a b

theorem xorl_length (a b : List UInt8) (h : b.length = a.length) : (xorl a b).length = a.length := by simp [xorl, h]

def zeros (n : Nat) : List UInt8 := List.replicate n 0

/-- all of them, added to what is there -/
def sumTo (acc : List UInt8) : List (List UInt8) → List UInt8
  | [] => acc
  | b :: r => sumTo (xorl acc b) r

theorem sumTo_append (acc : List UInt8) (l m : List (List UInt8)) : sumTo acc (l ++ m) = sumTo (sumTo acc l) m := by
  induction l generalizing acc with
  | nil => rfl
  | cons b r ih => simp [sumTo, ih]

theorem sumTo_length {n : Nat} (acc : List UInt8) (l : List (List UInt8)) (ha : acc.length = n) (hl : ∀ b ∈ l, b.length = n) : (sumTo acc l).length = n := by
  induction l generalizing acc with
  | nil => exact ha
  | cons b r ih =>
    simp only [sumTo]
    refine ih _ ?_ fun c hc => hl c (by simp [hc])
    rw [xorl_length _ _ (by rw [ha]; exact hl b (by simp)), ha]

/-- chapter 1's Add, of right blocks -/
def sumOf (ls : List (List UInt8)) : List UInt8 := sumTo (zeros (ls.headD []).length) ls

end Go.Proofs.YtpmgmddicbpgjaaDoor

/-
  The reference's 'in': its contract.
-/
namespace Go.Proofs.YtpmgmddicbpgjaaDoor
open Go.RowKit
set_option linter.unusedVariables false
set_option linter.unusedSimpArgs false

end Go.Proofs.YtpmgmddicbpgjaaDoor

/-
  Chapter 1's smaller functions: the contract of each.
-/
namespace Go.Proofs.YtpmgmddicbpgjaaDoor
open Go.RowKit
set_option linter.unusedVariables false
set_option linter.unusedSimpArgs false

theorem AllIn.below {w w' : World} {bl : List Blk} (h : AllIn w bl) (hb : Below w.heap.size w w') : AllIn w' bl := fun b hm => ⟨(h b hm).1.below hb (Nat.le_refl _), (h b hm).2⟩

theorem lens_get {bl : List Blk} {k : Nat} (h : k < bl.length) : (lens bl)[k]'(by simpa [lens] using h) = bl[k].l.length := by simp [lens]

theorem chk_2 {bl : List Blk} {k : Nat} (hok : Hid (okTo ((lens bl).headD 0) (lens bl) k)) (h : k < bl.length) (hb : (bl[k].l.length : Int) < 1 ∨ 16 < (bl[k].l.length : Int)) : (2 : Int) = chk (lens bl) :=
  (((chkFrom_at hok.out (by simpa [lens] using h)).1 (by rw [lens_get h]; omega))).symm

theorem lens_head {bl : List Blk} (h : 0 < bl.length) : (lens bl).headD 0 = bl[0].l.length := by
  cases bl with
  | nil => simp at h
  | cons b r => simp [lens]

theorem chk_4 {bl : List Blk} {k : Nat} (hok : Hid (okTo ((lens bl).headD 0) (lens bl) k)) (h : k < bl.length) (h0 : 0 < bl.length) (h1 : 1 ≤ (bl[k].l.length : Int)) (h2 : (bl[k].l.length : Int) ≤ 16) (hne : ((bl[k].l.length : Int) != (bl[0].l.length : Int)) = true) : (4 : Int) = chk (lens bl) :=
  (((chkFrom_at hok.out (by simpa [lens] using h)).2 (by rw [lens_get h]; omega) (by
    rw [lens_get h, lens_head h0]
    simp at hne
    omega))).symm

theorem chk_go {bl : List Blk} {k : Nat} (hok : Hid (okTo ((lens bl).headD 0) (lens bl) k)) (h : k < bl.length) (h0 : 0 < bl.length) (h1 : 1 ≤ (bl[k].l.length : Int)) (h2 : (bl[k].l.length : Int) ≤ 16) (hne : ((bl[k].l.length : Int) != (bl[0].l.length : Int)) = false) : okTo ((lens bl).headD 0) (lens bl) (k + 1) :=
  okTo_succ hok.out (by simpa [lens] using h) (by rw [lens_get h]; omega) (by rw [lens_get h]; omega) (by
    rw [lens_get h, lens_head h0]
    simp at hne
    omega)

theorem chk_end {bl : List Blk} {k : Nat} (hok : Hid (okTo ((lens bl).headD 0) (lens bl) k)) (hk : k = bl.length) : (0 : Int) = chk (lens bl) := by
  subst hk
  exact (chkFrom_all (l := lens bl) (by simpa [lens] using hok.out)).symm

set_option maxHeartbeats 400000 in
/-- sum.Check -/
theorem check_any (a : Option Addr) (cap : Nat) (bl : List Blk) (w : World) (hn : bl.length ≤ maxLen) (ha : Lies w a (bl.map Blk.val)) (hall : AllIn w bl) :
    Calls Tryd.prog 93 #[.slice a bl.length cap] w fun e w' => e = .returned (.int .i64 (chk (lens bl))) ∧ w = w' := by
  unfold maxLen at hn
  have hf : ∀ i (h : i < bl.length), (bl[i].l.length : Int) ≤ 9223372036854775807 := fun i h => by
    have := (hall bl[i] (by simp)).2
    unfold maxLen at this
    omega
  go_enter Tryd.func93, Tryd.ntmps93
  go_wp2
  go_loop [7] (fun i => ∃ k : Nat, k ≤ bl.length ∧ i = .int .i64 k ∧ Hid (okTo ((lens bl).headD 0) (lens bl) k)) (fun i => bl.length - (intOf i).toNat)
  case atStart => exact ⟨0, Nat.zero_le _, rfl, okTo_zero _ _⟩
  case round =>
    obtain ⟨k, hk, rfl, hok⟩ := hrel
    by_cases hlt : k < bl.length
    · obtain ⟨b1, o1, rfl⟩ := ha.some (k := k) (by simpa using hlt)
      have h0lt : 0 < bl.length := by omega
      have h1 : w.cell? ⟨b1, o1 + k, none⟩ = some (.slice bl[k].a bl[k].l.length bl[k].cap) := ha.at (by simp [hlt, Blk.val])
      have h0 : w.cell? ⟨b1, o1, none⟩ = some (.slice bl[0].a bl[0].l.length bl[0].cap) := by simpa using ha.at (k := 0) (by simp [h0lt, Blk.val])
      clear ha hall
      by_cases hb1 : (bl[k].l.length : Int) < 1
      · go_wp2
        go_ret
        exact ⟨ret_int (chk_2 hok hlt (.inl hb1)), rfl⟩
      have hb1 : 1 ≤ (bl[k].l.length : Int) := by omega
      by_cases hb2 : 16 < (bl[k].l.length : Int)
      · go_wp2
        go_ret
        exact ⟨ret_int (chk_2 hok hlt (.inr hb2)), rfl⟩
      have hb2 : (bl[k].l.length : Int) ≤ 16 := by omega
      cases hne : ((bl[k].l.length : Int) != (bl[0].l.length : Int)) with
      | true =>
        go_wp2
        go_ret
        exact ⟨ret_int (chk_4 hok hlt h0lt hb1 hb2 hne), rfl⟩
      | false =>
        go_wp2
        go_round
        case rel => exact ⟨k + 1, by omega, by go_num, chk_go hok hlt h0lt hb1 hb2 hne⟩
        case measure => simp [intOf]; omega
    · clear ha hall
      go_wp2
      go_ret
      exact ⟨ret_int (chk_end hok (by omega)), rfl⟩

theorem okTo_prev {f : Nat} {l : List Nat} {k : Nat} (h : Hid (okTo f l k)) (hk : 0 < k) (hl : k ≤ l.length) : l[k - 1]'(by omega) = f := (h.out (k - 1) (by omega) (by omega)).2.2

theorem chk_4p {bl : List Blk} {k : Nat} (hok : Hid (okTo ((lens bl).headD 0) (lens bl) k)) (h : k < bl.length) (hp : k - 1 < bl.length) (h1 : 1 ≤ (bl[k].l.length : Int)) (h2 : (bl[k].l.length : Int) ≤ 16)
    (HP : Hid (bl[k - 1].l.length = (lens bl).headD 0)) (hne : ((bl[k].l.length : Int) != (bl[k - 1].l.length : Int)) = true) : (4 : Int) = chk (lens bl) :=
  (((chkFrom_at hok.out (by simpa [lens] using h)).2 (by rw [lens_get h]; omega) (by
    rw [lens_get h, ← HP.out]
    simp at hne
    omega))).symm

theorem chk_gop {bl : List Blk} {k : Nat} (hok : Hid (okTo ((lens bl).headD 0) (lens bl) k)) (h : k < bl.length) (hp : k - 1 < bl.length) (h1 : 1 ≤ (bl[k].l.length : Int)) (h2 : (bl[k].l.length : Int) ≤ 16)
    (HP : Hid (bl[k - 1].l.length = (lens bl).headD 0)) (hne : ((bl[k].l.length : Int) != (bl[k - 1].l.length : Int)) = false) : okTo ((lens bl).headD 0) (lens bl) (k + 1) :=
  okTo_succ hok.out (by simpa [lens] using h) (by rw [lens_get h]; omega) (by rw [lens_get h]; omega) (by
    rw [lens_get h, ← HP.out]
    simp at hne
    omega)

end Go.Proofs.YtpmgmddicbpgjaaDoor
