/-
  Chapter 7, of no program: the words of a text, numerals and digits, and back.
-/
import Derived.Lib.SplitLaws
import Derived.Lib.ParseIntBTie
import Derived.Lib.ItoaLen
import Derived.Lib.ItoaMem
import Derived.Lib.AtoiAllCases
import Derived.Lib.Join
namespace Go.Proofs.YtcpnbkgkknlocaaDoor
set_option linter.unusedVariables false
set_option linter.unusedSimpArgs false

/-- what stands between blanks -/
def wordsL : List UInt8 → List (List UInt8)
  | [] => [[]]
  | c :: r => if c = 32 then [] :: wordsL r else match wordsL r with
    | [] => [[c]]
    | x :: xs => (c :: x) :: xs

theorem wordsL_ne (l : List UInt8) : wordsL l ≠ [] := by
  cases l with
  | nil => simp [wordsL]
  | cons c r =>
    simp only [wordsL]
    split
    · simp
    · split <;> simp

theorem wordsL_none : ∀ (a : List UInt8), (32 : UInt8) ∉ a → wordsL a = [a]
  | [], _ => rfl
  | c :: r, h => by
    have h1 : ¬ c = 32 := fun e => h (by simp [e])
    have h2 := wordsL_none r (fun e => h (List.mem_cons_of_mem _ e))
    simp only [wordsL, if_neg h1, h2]

theorem wordsL_hit : ∀ (a b : List UInt8), (32 : UInt8) ∉ a → wordsL (a ++ 32 :: b) = a :: wordsL b
  | [], b, _ => by simp [wordsL]
  | c :: r, b, h => by
    have h1 : ¬ c = 32 := fun e => h (by simp [e])
    have h2 := wordsL_hit r b (fun e => h (List.mem_cons_of_mem _ e))
    simp only [List.cons_append, wordsL, if_neg h1, h2]

theorem wordsL_join : ∀ (ws : List (List UInt8)), ws ≠ [] → (∀ x ∈ ws, (32 : UInt8) ∉ x) → wordsL (Lib.join ws [32]) = ws
  | [], h, _ => absurd rfl h
  | [x], _, h => by rw [Lib.join_one, wordsL_none x (h x (by simp))]
  | x :: y :: r, _, h => by
    have ih := wordsL_join (y :: r) (by simp) (fun z hz => h z (List.mem_cons_of_mem _ hz))
    have e : Lib.join (x :: y :: r) [32] = x ++ 32 :: Lib.join (y :: r) [32] := by
      rw [Lib.join_cons, Lib.join_cons]; simp [Lib.joinTail]
    rw [e, wordsL_hit x _ (h x (by simp)), ih]

theorem join_wordsL : ∀ (s : List UInt8), Lib.join (wordsL s) [32] = s
  | [] => by simp [wordsL, Lib.join_one]
  | c :: r => by
    have ih := join_wordsL r
    by_cases h : c = 32
    · subst h
      simp only [wordsL, if_pos]
      cases hw : wordsL r with
      | nil => exact absurd hw (wordsL_ne r)
      | cons x xs =>
        rw [hw] at ih
        rw [Lib.join_cons] at ih ⊢
        simp [Lib.joinTail] at ih ⊢
        exact ih
    · simp only [wordsL, if_neg h]
      cases hw : wordsL r with
      | nil => exact absurd hw (wordsL_ne r)
      | cons x xs =>
        rw [hw] at ih
        simp only
        rw [Lib.join_cons] at ih ⊢
        rw [List.cons_append, ih]

theorem wordsL_free : ∀ (s : List UInt8), ∀ x ∈ wordsL s, (32 : UInt8) ∉ x
  | [], x, h => by simp [wordsL] at h; subst h; simp
  | c :: r, x, h => by
    have ih := wordsL_free r
    simp only [wordsL] at h
    split at h
    · rcases List.mem_cons.1 h with rfl | h
      · simp
      · exact ih x h
    · rename_i hc
      cases hw : wordsL r with
      | nil => exact absurd hw (wordsL_ne r)
      | cons y ys =>
        rw [hw] at h ih
        rcases List.mem_cons.1 h with rfl | h
        · intro e
          rcases List.mem_cons.1 e with e | e
          · exact hc e.symm
          · exact ih y (by simp) e
        · exact ih x (List.mem_cons_of_mem _ h)

theorem wordsL_index (s : List UInt8) : (Lib.index s [32] = -1 ∧ wordsL s = [s]) ∨ ∃ i : Nat, Lib.index s [32] = i ∧ i < s.length ∧ wordsL s = s.take i :: wordsL (s.drop (i + 1)) := by
  have occ : ∀ j, Lib.occAt s [32] j = true ↔ s[j]? = some 32 := by
    intro j
    simp only [Lib.occAt]
    rw [← List.head?_drop]
    cases s.drop j with
    | nil => simp
    | cons a b =>
      simp only [List.isPrefixOf, Bool.and_true, beq_iff_eq, List.head?_cons, Option.some.injEq]
      exact ⟨fun e => e.symm, fun e => e.symm⟩
  rcases Lib.index_spec s [32] with ⟨h1, h2⟩ | ⟨i, h1, hi, h2, h3⟩
  · left
    refine ⟨h1, wordsL_none s ?_⟩
    intro hm
    obtain ⟨j, hj, e⟩ := List.getElem_of_mem hm
    have := (occ j).2 (by rw [List.getElem?_eq_getElem hj, e])
    rw [h2 j (by omega)] at this
    simp at this
  · right
    have hs := (occ i).1 h2
    have hl : i < s.length := by
      rcases Nat.lt_or_ge i s.length with h | h
      · exact h
      · rw [List.getElem?_eq_none h] at hs; simp at hs
    refine ⟨i, h1, hl, ?_⟩
    have e : s = s.take i ++ 32 :: s.drop (i + 1) := by
      have h4 : s[i] = 32 := by rw [List.getElem?_eq_getElem hl] at hs; simpa using hs
      rw [← h4, List.getElem_cons_drop]
      simp
    conv => lhs; rw [e]
    refine wordsL_hit _ _ ?_
    intro hm
    obtain ⟨j, hj, e⟩ := List.getElem_of_mem hm
    rw [List.length_take] at hj
    have hj' : j < i := by omega
    have h5 := (occ j).2 (by rw [List.getElem?_eq_getElem (by omega)]; simpa using e)
    have h6 := h3 j hj'
    simp [h5] at h6

theorem split_words : ∀ (k : Nat) (s : List UInt8), Lib.count s [32] = k → Lib.splitK [32] 0 k s = wordsL s
  | 0, s, h => by
    rcases wordsL_index s with ⟨h1, h2⟩ | ⟨i, h1, hi, h2⟩
    · rw [h2]; rfl
    · rw [Lib.count_hit (by simp) h1] at h; omega
  | k + 1, s, h => by
    rcases wordsL_index s with ⟨h1, h2⟩ | ⟨i, h1, hi, h2⟩
    · rw [Lib.count_miss h1] at h; omega
    · rw [Lib.count_hit (by simp) h1] at h
      have ih := split_words k (s.drop (i + 1)) (by simp at h; omega)
      rw [h2, Lib.splitK, h1]
      simp [ih]

/-! ### Numerals -/

theorem parse_append : ∀ (a b : List UInt8) (acc u : Nat), Lib.parseUint10 acc a = .ok u → Lib.parseUint10 acc (a ++ b) = Lib.parseUint10 u b
  | [], b, acc, u, h => by simp only [Lib.parseUint10] at h; injection h with h; subst h; rfl
  | c :: r, b, acc, u, h => by
    simp only [List.cons_append, Lib.parseUint10] at h ⊢
    split at h
    · split at h
      · cases h
      · split at h
        · cases h
        · rename_i h1 h2 h3
          rw [if_pos h1, if_neg h2, if_neg h3]
          exact parse_append r b _ u h
    · cases h

theorem digit_toNat (d : Nat) (h : d < 10) : (UInt8.ofNat (48 + d)).toNat = 48 + d := by
  rw [UInt8.toNat_ofNat']; omega

theorem parse_dec (u : Nat) (h : u < 18446744073709551616) : Lib.parseUint10 0 (Lib.decDigits u) = .ok u := by
  induction u using Nat.strongRecOn with
  | ind u ih =>
    rw [Lib.decDigits]
    by_cases hs : u < 10
    · rw [dif_pos hs]
      simp only [Lib.parseUint10, digit_toNat u hs]
      rw [if_pos (by omega), if_neg (by omega), if_neg (by omega)]
      congr 1; omega
    · rw [dif_neg hs, parse_append _ _ 0 (u / 10) (ih (u / 10) (by omega) (by omega))]
      simp only [Lib.parseUint10, digit_toNat (u % 10) (by omega)]
      rw [if_pos (by omega), if_neg (by omega), if_neg (by omega)]
      congr 1; omega

theorem dec_digits (u : Nat) : ∀ c ∈ Lib.decDigits u, 48 ≤ c.toNat ∧ c.toNat ≤ 57 := by
  induction u using Nat.strongRecOn with
  | ind u ih =>
    intro c hc
    rw [Lib.decDigits] at hc
    by_cases hs : u < 10
    · rw [dif_pos hs] at hc
      simp only [List.mem_singleton] at hc
      subst hc
      rw [digit_toNat u hs]; omega
    · rw [dif_neg hs] at hc
      rcases List.mem_append.1 hc with h | h
      · exact ih (u / 10) (by omega) c h
      · simp only [List.mem_singleton] at h
        subst h
        rw [digit_toNat _ (by omega)]; omega

theorem dec_ne (u : Nat) : Lib.decDigits u ≠ [] := by
  rw [Lib.decDigits]
  split <;> simp

theorem mag_dec (u : Nat) (h : u < 18446744073709551616) : Lib.parseMag (Lib.decDigits u) = .ok u := by
  rw [Lib.parseMag, if_neg (dec_ne u), parse_dec u h]

theorem atoi_itoa (n : Int) (h0 : -9223372036854775808 ≤ n) (h1 : n ≤ 9223372036854775807) : Lib.atoiAll (Lib.itoa n) = .ok n := by
  unfold Lib.itoa
  by_cases hn : n < 0
  · rw [if_pos hn]
    have e := mag_dec n.natAbs (by omega)
    simp only [Lib.atoiAll, show (45 : UInt8).toNat = 45 from rfl, or_true, if_true, e]
    rw [if_neg (by simp), if_neg (by omega)]
    congr 1; omega
  · rw [if_neg hn]
    have e := mag_dec n.toNat (by omega)
    cases hd : Lib.decDigits n.toNat with
    | nil => exact absurd hd (dec_ne _)
    | cons c r =>
      have hc := dec_digits n.toNat c (by rw [hd]; simp)
      have c43 : ¬ c.toNat = 43 := by omega
      have c45 : ¬ c.toNat = 45 := by omega
      rw [hd] at e
      simp only [Lib.atoiAll, c43, c45, or_self, if_false, e]
      rw [if_neg (by omega), if_neg (by simp)]
      congr 1; omega

theorem itoa_free (n : Int) : (32 : UInt8) ∉ Lib.itoa n := by
  have hd : ∀ u, (32 : UInt8) ∉ Lib.decDigits u := by
    intro u h
    have := dec_digits u 32 h
    simp at this
  unfold Lib.itoa
  split
  · intro h
    rcases List.mem_cons.1 h with h | h
    · cases h
    · exact hd _ h
  · exact hd _

/-- the number that a word writes, as Itoa would -/
def numW (x : List UInt8) : Option Int :=
  match Lib.atoiAll x with
  | .ok v => if Lib.itoa v = x then some v else none
  | _ => none

theorem numW_itoa (n : Int) (h0 : -9223372036854775808 ≤ n) (h1 : n ≤ 9223372036854775807) : numW (Lib.itoa n) = some n := by
  simp [numW, atoi_itoa n h0 h1]

theorem numW_back {x : List UInt8} {n : Int} (h : numW x = some n) : Lib.itoa n = x ∧ -9223372036854775808 ≤ n ∧ n ≤ 9223372036854775807 := by
  unfold numW at h
  split at h
  · rename_i v hv
    split at h
    · rename_i hx
      injection h with h
      subst h
      exact ⟨hx, Lib.atoiAll_bounds hv⟩
    · cases h
  · cases h

/-! ### Bytes as digits -/

/-- the sixteen digits -/
def digsL : List UInt8 := [48, 49, 50, 51, 52, 53, 54, 55, 56, 57, 97, 98, 99, 100, 101, 102]

def dig (n : Nat) : UInt8 := digsL.getD n 0

/-- two digits for each byte -/
def hexL (l : List UInt8) : List UInt8 := l.flatMap fun b => [dig (b.toNat / 16), dig (b.toNat % 16)]

/-- the word of a list of bytes -/
def hexW (l : List UInt8) : List UInt8 := 45 :: hexL l

theorem hexL_nil : hexL [] = [] := rfl
theorem hexL_cons (b : UInt8) (l : List UInt8) : hexL (b :: l) = dig (b.toNat / 16) :: dig (b.toNat % 16) :: hexL l := by simp [hexL]
theorem hexL_append (a b : List UInt8) : hexL (a ++ b) = hexL a ++ hexL b := by simp [hexL]

theorem hexL_len (l : List UInt8) : (hexL l).length = 2 * l.length := by
  induction l with
  | nil => rfl
  | cons b l ih => rw [hexL_cons]; simp [ih]; omega

/-- the place of a digit, as IndexByte tells it -/
def digI (c : UInt8) : Int := Lib.indexByte digsL c

theorem digI_dig : ∀ n, n < 16 → digI (dig n) = n := by decide

theorem digI_all : ∀ c : UInt8, digI c = -1 ∨ (0 ≤ digI c ∧ digI c < 16 ∧ dig (digI c).toNat = c) := by
  intro c
  by_cases h : c ∈ digsL
  · right
    simp only [digsL, List.mem_cons, List.not_mem_nil, or_false] at h
    rcases h with h | h | h | h | h | h | h | h | h | h | h | h | h | h | h | h <;> subst h <;> decide
  · left
    have gen : ∀ l : List UInt8, c ∉ l → Lib.indexByte l c = -1 := by
      intro l
      induction l with
      | nil => intro _; rfl
      | cons b l ih =>
        intro hm
        have h1 : ¬ (b == c) = true := by simp; intro e; exact hm (by simp [e])
        have h2 := ih (fun e => hm (List.mem_cons_of_mem _ e))
        rw [Lib.indexByte, if_neg h1, h2]; rfl
    exact gen _ h

theorem dig_ne : ∀ n, n < 16 → dig n ≠ 32 := by decide

theorem hexL_free (l : List UInt8) : (32 : UInt8) ∉ hexL l := by
  induction l with
  | nil => simp [hexL]
  | cons b l ih =>
    rw [hexL_cons]
    intro h
    rcases List.mem_cons.1 h with h | h
    · exact dig_ne _ (by have := b.toNat_lt; omega) h.symm
    · rcases List.mem_cons.1 h with h | h
      · exact dig_ne _ (by omega) h.symm
      · exact ih h

theorem hexW_free (l : List UInt8) : (32 : UInt8) ∉ hexW l := by
  intro h
  rcases List.mem_cons.1 h with h | h
  · cases h
  · exact hexL_free l h

/-- the bytes of digits; none where one is no digit, or one is alone -/
def unhex : List UInt8 → Option (List UInt8)
  | [] => some []
  | [_] => none
  | a :: b :: r => if digI a < 0 ∨ digI b < 0 then none else (unhex r).map (UInt8.ofNat ((digI a).toNat * 16 + (digI b).toNat) :: ·)

/-- the bytes of a word -/
def byW : List UInt8 → Option (List UInt8)
  | 45 :: r => unhex r
  | _ => none

theorem unhex_hex : ∀ l, unhex (hexL l) = some l
  | [] => rfl
  | b :: l => by
    have hb := b.toNat_lt
    have h1 := digI_dig (b.toNat / 16) (by omega)
    have h2 := digI_dig (b.toNat % 16) (by omega)
    rw [hexL_cons, unhex, h1, h2, if_neg (by omega), unhex_hex l]
    simp only [Option.map_some, Int.toNat_natCast]
    rw [show b.toNat / 16 * 16 + b.toNat % 16 = b.toNat by omega]
    simp

theorem hex_unhex : ∀ (x l : List UInt8), unhex x = some l → hexL l = x
  | [], l, h => by simp [unhex] at h; subst h; rfl
  | [_], l, h => by simp [unhex] at h
  | a :: b :: r, l, h => by
    rw [unhex] at h
    split at h
    · cases h
    · rename_i hn
      cases hr : unhex r with
      | none => rw [hr] at h; cases h
      | some m =>
        rw [hr] at h
        simp only [Option.map_some, Option.some.injEq] at h
        subst h
        have ih := hex_unhex r m hr
        rcases digI_all a with ha | ⟨a0, a1, a2⟩
        · exact absurd (Or.inl (by omega)) hn
        · rcases digI_all b with hb | ⟨b0, b1, b2⟩
          · exact absurd (Or.inr (by omega)) hn
          · have e : (UInt8.ofNat ((digI a).toNat * 16 + (digI b).toNat)).toNat = (digI a).toNat * 16 + (digI b).toNat := by
              rw [UInt8.toNat_ofNat']; omega
            rw [hexL_cons, e, ih, show ((digI a).toNat * 16 + (digI b).toNat) / 16 = (digI a).toNat by omega, show ((digI a).toNat * 16 + (digI b).toNat) % 16 = (digI b).toNat by omega, a2, b2]

theorem byW_hexW (l : List UInt8) : byW (hexW l) = some l := unhex_hex l

theorem hexW_byW {x l : List UInt8} (h : byW x = some l) : hexW l = x := by
  unfold byW at h
  split at h
  · rw [hexW, hex_unhex _ _ h]
  · cases h

theorem unhex_odd : ∀ (x : List UInt8), x.length % 2 ≠ 0 → unhex x = none
  | [], h => absurd rfl h
  | [_], _ => rfl
  | a :: b :: r, h => by
    have := unhex_odd r (by simp at h ⊢; omega)
    rw [unhex, this]
    split <;> rfl

theorem unhex_len {x l : List UInt8} (h : unhex x = some l) : x.length = 2 * l.length := by
  rw [← hex_unhex x l h, hexL_len]

theorem unhex_append : ∀ (x y a : List UInt8), unhex x = some a → unhex (x ++ y) = (unhex y).map (a ++ ·)
  | [], y, a, h => by
    simp [unhex] at h
    subst h
    rw [List.nil_append]
    cases unhex y <;> rfl
  | [_], y, a, h => by simp [unhex] at h
  | c :: d :: r, y, a, h => by
    rw [unhex] at h
    split at h
    · cases h
    · rename_i hn
      cases hr : unhex r with
      | none => rw [hr] at h; cases h
      | some m =>
        rw [hr] at h
        simp only [Option.map_some, Option.some.injEq] at h
        subst h
        rw [List.cons_append, List.cons_append, unhex, if_neg hn, unhex_append r y m hr]
        cases unhex y <;> simp

end Go.Proofs.YtcpnbkgkknlocaaDoor
