import Derived.Test.YtekdigbdfeamkaaGreatDoorPart4
import Derived.Test.YtekdigbdfeamkaaGreatDoorPart6
import Derived.Deep.CutBlock
import Derived.Test.YtekdigbdfeamkaaGreatDoorPart1
import Derived.Orders
/-
  Chapter 7, the reference: CheckRec, where its parts fit its kind.
-/
namespace Go.Proofs.YtekdigbdfeamkaaGreatDoor
open Go.RowKit Go.Maps
set_option linter.unusedVariables false
set_option linter.unusedSimpArgs false

theorem cellW {w w' : World} {b j : Nat} {v : Value} (h : w.cell? ⟨b, j, none⟩ = some v) (hb : Below w.heap.size w w') : w'.cell? ⟨b, j, none⟩ = some v := by
  have hh : w'.heap[b]? = w.heap[b]? := hb.block b (by
    rcases Nat.lt_or_ge b w.heap.size with h1 | h1
    · exact h1
    · simp [World.cell?, Array.getElem?_eq_none h1] at h)
  simp only [World.cell?] at h ⊢
  rw [hh]
  exact h

/-- what CheckRec answers where the parts fit the kind -/
def restCode (u : List UInt8) (p n y : Int) (h : Hd) (id : Int) (dn cn : Nat) : Int :=
  if ¬ ((0 ≤ p ∧ p ≤ 3) ∧ (0 ≤ y ∧ y ≤ 9999) ∧ (0 ≤ n ∧ n ≤ 1000000)) then 3
  else
    let e1 := if hasB u 72 then hdCode h else 0
    let e2 := if e1 = 0 ∧ hasB u 83 then chkS h.B h.K id dn else e1
    if e2 = 0 ∧ hasB u 67 ∧ (cn : Int) ≠ h.B then 4 else e2

set_option maxHeartbeats 2000000 in
set_option maxRecDepth 8000 in
theorem checkRec_good (k p n y : Int) (h : Hd) (id : Int) (da : Option Addr) (dn dc : Nat) (ca : Option Addr) (cn cc : Nat) (u : List UInt8) (w : World) (hk : (Lit.int .i64 k).wf = true) (hu : usesL k = some u) (hgood : formB u p n y h id dn cn = true) (ho : h.ok) (hp : I64 p) (hn : I64 n) (hy : I64 y) (hdn : dn ≤ maxLen) :
    Calls Tryz.prog 39 #[.agg #[.int .i64 k, .int .i64 p, .int .i64 n, .int .i64 y, .int .i64 h.F, .int .i64 h.Q, .int .i64 h.T, .int .i64 h.L, .int .i64 h.B, .int .i64 h.K, .int .i64 id, .slice da dn dc, .slice ca cn cc]] w fun e w' => e = .returned (.int .i64 (restCode u p n y h id dn cn)) ∧ Below w.heap.size w w' := by
  obtain ⟨F, Q, T, L, B, K⟩ := h
  simp only
  obtain ⟨W, hW⟩ : ∃ W, w.alloc (.cells #[.int .i64 k, .int .i64 p, .int .i64 n, .int .i64 y, .int .i64 F, .int .i64 Q, .int .i64 T, .int .i64 L, .int .i64 B, .int .i64 K, .int .i64 id, .slice da dn dc, .slice ca cn cc] 33) = W := ⟨_, rfl⟩
  have hBl : Below w.heap.size w W := by rw [← hW]; exact (Below.refl _ _).alloc (Nat.le_refl _) _
  have hbk : W.heap[w.heap.size]? = some (.cells #[.int .i64 k, .int .i64 p, .int .i64 n, .int .i64 y, .int .i64 F, .int .i64 Q, .int .i64 T, .int .i64 L, .int .i64 B, .int .i64 K, .int .i64 id, .slice da dn dc, .slice ca cn cc] 33 (0, 0)) := by rw [← hW, heap_alloc_eq, if_pos rfl]
  have hsz : w.heap.size < W.heap.size := by rw [← hW]; simp
  have hmm := @run_makeMap Tryz.prog
  obtain ⟨w1, w2, w3, w4, w5, w6, w7, w8, r1, r2, r3, r4, r5, r6, r7, r8, hown, hb8⟩ := table_run W
  obtain ⟨s, hlk, hs⟩ := lookK hown k hk
  rw [hu] at hlk hs
  simp only [Option.getD_some] at hs
  subst hs
  have c0 : w8.cell? ⟨w.heap.size, 0, none⟩ = some (.int .i64 k) := cellB (blkB hbk hb8) 0 _ rfl
  have hB8 := hBl.trans (hb8.mono hBl.size)
  have hbk8 := blkB hbk hb8
  simp only [Option.isSome_some] at hlk
  clear hown hbk hBl
  obtain ⟨W2, hW2⟩ : ∃ W2, (w8.alloc (.cells #[.string s] 9)).alloc (.cells #[.func (.func 61) #[] #[.pointer (some ⟨w8.heap.size, 0, none⟩)]] 106) = W2 := ⟨_, rfl⟩
  have hF : Below w.heap.size w W2 := by rw [← hW2]; exact (hB8.alloc hB8.size _).alloc (by have := hB8.size; simp; omega) _
  have h82 : Below w8.heap.size w8 W2 := by rw [← hW2]; exact ((Below.refl _ _).alloc (Nat.le_refl _) _).alloc (by simp) _
  have hbk2 := blkB hbk8 h82
  have hub : W2.cell? ⟨w8.heap.size, 0, none⟩ = some (.string s) := by
    refine cellB (c := #[.string s]) (t := 9) (f := (0, 0)) ?_ 0 _ rfl
    rw [← hW2, heap_alloc_eq, if_neg (by simp), heap_alloc_eq, if_pos rfl]
  have hfb : W2.cell? ⟨w8.heap.size + 1, 0, none⟩ = some (.func (.func 61) #[] #[.pointer (some ⟨w8.heap.size, 0, none⟩)]) := by
    refine cellB (c := #[.func (.func 61) #[] #[.pointer (some ⟨w8.heap.size, 0, none⟩)]]) (t := 106) (f := (0, 0)) ?_ 0 _ rfl
    rw [← hW2, heap_alloc_eq, if_pos (by simp)]
  have q1 : W2.cell? ⟨w.heap.size, 1, none⟩ = some (.int .i64 p) := cellB hbk2 1 _ rfl
  have q2 : W2.cell? ⟨w.heap.size, 2, none⟩ = some (.int .i64 n) := cellB hbk2 2 _ rfl
  have q3 : W2.cell? ⟨w.heap.size, 3, none⟩ = some (.int .i64 y) := cellB hbk2 3 _ rfl
  have q4 : W2.cell? ⟨w.heap.size, 4, none⟩ = some (.int .i64 F) := cellB hbk2 4 _ rfl
  have q5 : W2.cell? ⟨w.heap.size, 5, none⟩ = some (.int .i64 Q) := cellB hbk2 5 _ rfl
  have q6 : W2.cell? ⟨w.heap.size, 6, none⟩ = some (.int .i64 T) := cellB hbk2 6 _ rfl
  have q7 : W2.cell? ⟨w.heap.size, 7, none⟩ = some (.int .i64 L) := cellB hbk2 7 _ rfl
  have q8 : W2.cell? ⟨w.heap.size, 8, none⟩ = some (.int .i64 B) := cellB hbk2 8 _ rfl
  have q9 : W2.cell? ⟨w.heap.size, 9, none⟩ = some (.int .i64 K) := cellB hbk2 9 _ rfl
  have q10 : W2.cell? ⟨w.heap.size, 10, none⟩ = some (.int .i64 id) := cellB hbk2 10 _ rfl
  have q11 : W2.cell? ⟨w.heap.size, 11, none⟩ = some (.slice da dn dc) := cellB hbk2 11 _ rfl
  have q12 : W2.cell? ⟨w.heap.size, 12, none⟩ = some (.slice ca cn cc) := cellB hbk2 12 _ rfl
  have hE : ∀ W, (binOp .eql 28 (.agg #[.int .i64 F, .int .i64 Q, .int .i64 T, .int .i64 L, .int .i64 B, .int .i64 K]) (.agg #[.int .i64 0, .int .i64 0, .int .i64 0, .int .i64 0, .int .i64 0, .int .i64 0])).run Tryz.prog W = .ok (.bool (decide ((⟨F, Q, T, L, B, K⟩ : Hd) = ⟨0, 0, 0, 0, 0, 0⟩))) W := fun W => eqlHead ⟨F, Q, T, L, B, K⟩ ⟨0, 0, 0, 0, 0, 0⟩ W
  generalize hz4 : decide ((⟨F, Q, T, L, B, K⟩ : Hd) = ⟨0, 0, 0, 0, 0, 0⟩) = z4 at hE
  have eg := entersRec2
  have hx := hgood
  simp only [formB, Bool.and_eq_true] at hx
  obtain ⟨⟨⟨⟨⟨hx1, hx2⟩, hx3⟩, hx4⟩, hx5⟩, hx6⟩ := hx
  have hz : (hasB s.data.toList 72 || z4) = true := by rw [← hz4]; exact hx4
  go_enter Tryz.func39, Tryz.ntmps39
  go_upto_region 4 with fail
  go_cut [77] from 18 to 77 (fun s77 wc => s77 = .bool false ∧ W2 = wc)
  case first =>
    clear r1 r2 r3 r4 r5 r6 r7 r8 hmm hlk hb8 hB8 hbk8 h82 hbk2 c0 hW hW2 hsz
    go_wp2_with fail
    refine (checkRec2_any s 80 (p == 0) w8.heap.size (w8.heap.size + 1) W2 hub hfb).mono ?_
    rintro e _ ⟨rfl, rfl⟩
    rw [hx1]
    go_wp2_with fail
    refine (checkRec2_any s 78 (n == 0) w8.heap.size (w8.heap.size + 1) W2 hub hfb).mono ?_
    rintro e _ ⟨rfl, rfl⟩
    rw [hx2]
    go_wp2_with fail
    refine (checkRec2_any s 84 (y == 0) w8.heap.size (w8.heap.size + 1) W2 hub hfb).mono ?_
    rintro e _ ⟨rfl, rfl⟩
    rw [hx3]
    go_wp2_with fail
    refine (checkRec2_any s 72 z4 w8.heap.size (w8.heap.size + 1) W2 hub hfb).mono ?_
    rintro e _ ⟨rfl, rfl⟩
    rw [hz]
    go_wp2_with fail
    · have hid : id = 0 := by assumption
      subst hid
      have h5 : (hasB s.data.toList 83 || (dn : Int) == 0) = true := by simpa using hx5
      refine (checkRec2_any s 83 ((dn : Int) == 0) w8.heap.size (w8.heap.size + 1) W2 hub hfb).mono ?_
      rintro e _ ⟨rfl, rfl⟩
      rw [h5]
      go_wp2_with fail
      refine (checkRec2_any s 67 ((cn : Int) == 0) w8.heap.size (w8.heap.size + 1) W2 hub hfb).mono ?_
      rintro e _ ⟨rfl, rfl⟩
      rw [hx6]
      go_wp2_with fail
      go_meet
      exact ⟨rfl, rfl⟩
    · have hid : ¬ id = 0 := by assumption
      have h5 : (hasB s.data.toList 83 || false) = true := by simpa [hid] using hx5
      refine (checkRec2_any s 83 false w8.heap.size (w8.heap.size + 1) W2 hub hfb).mono ?_
      rintro e _ ⟨rfl, rfl⟩
      rw [h5]
      go_wp2_with fail
      refine (checkRec2_any s 67 ((cn : Int) == 0) w8.heap.size (w8.heap.size + 1) W2 hub hfb).mono ?_
      rintro e _ ⟨rfl, rfl⟩
      rw [hx6]
      go_wp2_with fail
      go_meet
      exact ⟨rfl, rfl⟩
  case rest =>
    obtain ⟨rfl, rfl⟩ := hcut
    clear r1 r2 r3 r4 r5 r6 r7 r8 hmm hlk hb8 hB8 hbk8 h82 hbk2 c0 hW hW2 hsz
    go_wp2_with fail
    refine (in_any p 0 3 _).mono ?_
    rintro e _ ⟨rfl, rfl⟩
    by_cases g1 : 0 ≤ p ∧ p ≤ 3
    rotate_left
    · rw [decide_eq_false g1]
      go_wp2
      go_ret
      exact ⟨by rw [restCode, if_pos (fun hh => g1 hh.1)]; rfl, hF⟩
    rw [decide_eq_true g1]
    go_wp2_with fail
    refine (in_any y 0 9999 _).mono ?_
    rintro e _ ⟨rfl, rfl⟩
    by_cases g2 : 0 ≤ y ∧ y ≤ 9999
    rotate_left
    · rw [decide_eq_false g2]
      go_wp2
      go_ret
      exact ⟨by rw [restCode, if_pos (fun hh => g2 hh.2.1)]; rfl, hF⟩
    rw [decide_eq_true g2]
    go_wp2_with fail
    refine (in_any n 0 1000000 _).mono ?_
    rintro e _ ⟨rfl, rfl⟩
    by_cases g3 : 0 ≤ n ∧ n ≤ 1000000
    rotate_left
    · rw [decide_eq_false g3]
      go_wp2
      go_ret
      exact ⟨by rw [restCode, if_pos (fun hh => g3 hh.2.2)]; rfl, hF⟩
    rw [decide_eq_true g3]
    have eg1 := entersRec1
    go_wp2_with fail
    refine (checkRec1_any s 72 w8.heap.size W2 hub).mono ?_
    rintro e _ ⟨rfl, rfl⟩
    generalize hb7 : hasB s.data.toList 72 = b7
    go_upto_if 95 with fail
    go_cut [7] from 96 to 98 (fun s7 wc => s7 = .int .i64 (if b7 = true then hdCode ⟨F, Q, T, L, B, K⟩ else 0) ∧ Shut (Below W2.heap.size W2 wc))
    case first =>
      cases b7
      · go_wp2_with fail
        go_meet
        exact ⟨rfl, ⟨Below.refl _ _⟩⟩
      · go_wp2_with fail
        refine (checkHead_any ⟨F, Q, T, L, B, K⟩ W2 ho).mono ?_
        rintro e w9 ⟨rfl, hb9⟩
        go_wp2_with fail
        go_meet
        exact ⟨rfl, ⟨hb9⟩⟩
    case rest =>
      obtain ⟨rfl, HB⟩ := hcut
      have hb9 := HB.out
      clear HB
      replace hub := cellW hub hb9
      replace hfb := cellW hfb hb9
      replace q4 := cellW q4 hb9
      replace q5 := cellW q5 hb9
      replace q6 := cellW q6 hb9
      replace q7 := cellW q7 hb9
      replace q8 := cellW q8 hb9
      replace q9 := cellW q9 hb9
      replace q10 := cellW q10 hb9
      replace q11 := cellW q11 hb9
      replace q12 := cellW q12 hb9
      replace hF := hF.trans (hb9.mono hF.size)
      clear q1 q2 q3 hb9
      generalize he1 : (if b7 = true then hdCode ⟨F, Q, T, L, B, K⟩ else 0) = e1
      by_cases g4 : e1 = 0
      · subst g4
        go_wp2_with fail
        refine (checkRec1_any s 83 w8.heap.size wc hub).mono ?_
        rintro e _ ⟨rfl, rfl⟩
        generalize hb8 : hasB s.data.toList 83 = b8
        go_upto_if 104 with fail
        go_cut [7] from 105 to 110 (fun s7 wd => s7 = .int .i64 (if b8 = true then chkS B K id dn else 0) ∧ Shut (Below wc.heap.size wc wd))
        case first =>
          cases b8
          · go_wp2_with fail
            go_meet
            exact ⟨rfl, ⟨Below.refl _ _⟩⟩
          · go_wp2_with fail
            refine (checkSymbol_any B K id da dn dc wc ho.2.2.2.2.1 ho.2.2.2.2.2 hdn).mono ?_
            rintro e w9 ⟨rfl, hb9⟩
            go_wp2_with fail
            go_meet
            exact ⟨rfl, ⟨hb9⟩⟩
        case rest =>
          obtain ⟨rfl, HB⟩ := hcut
          have hb9 := HB.out
          clear HB
          replace hub := cellW hub hb9
          replace hfb := cellW hfb hb9
          replace q8 := cellW q8 hb9
          replace q9 := cellW q9 hb9
          replace q12 := cellW q12 hb9
          replace hF := hF.trans (hb9.mono hF.size)
          clear q4 q5 q6 q7 q10 q11 hb9
          generalize he2 : (if b8 = true then chkS B K id dn else 0) = e2
          have hR : restCode s.data.toList p n y ⟨F, Q, T, L, B, K⟩ id dn cn = if e2 = 0 ∧ hasB s.data.toList 67 ∧ (cn : Int) ≠ B then 4 else e2 := by
            rw [restCode, if_neg (fun hh => hh ⟨g1, g2, g3⟩)]
            simp only [hb7, he1, hb8, true_and, he2]
          by_cases g5 : e2 = 0
          · subst g5
            go_wp2_with fail
            refine (checkRec1_any s 67 w8.heap.size _ hub).mono ?_
            rintro e _ ⟨rfl, rfl⟩
            generalize hb9 : hasB s.data.toList 67 = b9 at hR ⊢
            cases b9
            · go_wp2_with fail
              go_ret
              exact ⟨by rw [hR]; rfl, hF⟩
            · by_cases g6 : (cn : Int) = B
              · go_wp2_with fail
                go_ret
                exact ⟨by rw [hR]; simp [g6], hF⟩
              · go_wp2_with fail
                go_ret
                exact ⟨by rw [hR]; simp [g6], hF⟩
          · go_wp2_with fail
            go_ret
            exact ⟨by rw [hR]; simp [g5], hF⟩
      · go_wp2_with fail
        go_ret
        refine ⟨?_, hF⟩
        rw [restCode, if_neg (fun hh => hh ⟨g1, g2, g3⟩)]
        simp only [hb7, he1, g4]
        simp [g4]

end Go.Proofs.YtekdigbdfeamkaaGreatDoor

/-
  Chapter 7, of no program: records, their codes, their texts, and what a text says.
-/
namespace Go.Proofs.YtekdigbdfeamkaaGreatDoor
open Go.RowKit
set_option linter.unusedVariables false
set_option linter.unusedSimpArgs false

/-- what chapter 7's Check answers -/
def recCode (k p n y : Int) (h : Hd) (id : Int) (dn cn : Nat) : Int :=
  match usesL k with
  | none => 4
  | some u => if formB u p n y h id dn cn = true then restCode u p n y h id dn cn else 4

/-- a record, told by its numbers and bytes -/
structure Rc where
  k : Int
  p : Int
  n : Int
  y : Int
  h : Hd
  id : Int
  d : List UInt8
  c : List UInt8
  deriving DecidableEq

def Rc.code (r : Rc) : Int := recCode r.k r.p r.n r.y r.h r.id r.d.length r.c.length

/-- its numbers are ints -/
def Rc.ints (r : Rc) : Prop := I64 r.k ∧ I64 r.p ∧ I64 r.n ∧ I64 r.y ∧ r.h.ok ∧ I64 r.id

/-- its numbers, as they stand in its text -/
def Rc.nums (r : Rc) : List Int := [r.k, r.p, r.n, r.y, r.h.F, r.h.Q, r.h.T, r.h.L, r.h.B, r.h.K, r.id]

/-- the words of its text -/
def Rc.words (r : Rc) : List (List UInt8) := r.nums.map Lib.itoa ++ [hexW r.d, hexW r.c]

/-- its text -/
def Rc.text (r : Rc) : List UInt8 := Lib.join r.words [32]

/-- the zero record -/
def rc0 : Rc := ⟨0, 0, 0, 0, ⟨0, 0, 0, 0, 0, 0⟩, 0, [], []⟩

/-- the record of numbers and bytes -/
def recOf (l : List Int) (d c : List UInt8) : Rc :=
  ⟨l.getD 0 0, l.getD 1 0, l.getD 2 0, l.getD 3 0, ⟨l.getD 4 0, l.getD 5 0, l.getD 6 0, l.getD 7 0, l.getD 8 0, l.getD 9 0⟩, l.getD 10 0, d, c⟩

/-- the numbers of words -/
def numsW : List (List UInt8) → Option (List Int)
  | [] => some []
  | x :: r => match numW x with
    | none => none
    | some v => (numsW r).map (v :: ·)

/-- what a text says, be it a record that Check takes or not -/
def readL (s : List UInt8) : Option Rc :=
  if (wordsL s).length = 13 then
    match numsW ((wordsL s).take 11), byW ((wordsL s).getD 11 []), byW ((wordsL s).getD 12 []) with
    | some l, some d, some c => some (recOf l d c)
    | _, _, _ => none
  else none

theorem numsW_append : ∀ (a b : List (List UInt8)) (l : List Int), numsW a = some l → numsW (a ++ b) = (numsW b).map (l ++ ·)
  | [], b, l, h => by
    simp [numsW] at h
    subst h
    rw [List.nil_append]
    cases numsW b <;> rfl
  | x :: r, b, l, h => by
    rw [numsW] at h
    rw [List.cons_append, numsW]
    cases hx : numW x with
    | none => rw [hx] at h; cases h
    | some v =>
      rw [hx] at h
      simp only at h ⊢
      cases hr : numsW r with
      | none => rw [hr] at h; cases h
      | some m =>
        rw [hr] at h
        simp only [Option.map_some, Option.some.injEq] at h
        subst h
        rw [numsW_append r b m hr]
        cases numsW b <;> rfl

theorem numsW_none : ∀ (a b : List (List UInt8)), numsW a = none → numsW (a ++ b) = none
  | [], b, h => by simp [numsW] at h
  | x :: r, b, h => by
    rw [numsW] at h
    rw [List.cons_append, numsW]
    cases hx : numW x with
    | none => rfl
    | some v =>
      rw [hx] at h
      simp only at h ⊢
      cases hr : numsW r with
      | none => rw [numsW_none r b hr]; rfl
      | some m => rw [hr] at h; cases h

theorem numsW_itoa : ∀ (l : List Int), (∀ n ∈ l, I64 n) → numsW (l.map Lib.itoa) = some l
  | [], _ => rfl
  | n :: r, h => by
    have hn := h n (by simp)
    rw [List.map_cons, numsW, numW_itoa n hn.1 hn.2, numsW_itoa r (fun m hm => h m (List.mem_cons_of_mem _ hm))]
    rfl

theorem itoa_numsW : ∀ (a : List (List UInt8)) (l : List Int), numsW a = some l → l.map Lib.itoa = a ∧ (∀ n ∈ l, I64 n)
  | [], l, h => by simp [numsW] at h; subst h; simp
  | x :: r, l, h => by
    rw [numsW] at h
    cases hx : numW x with
    | none => rw [hx] at h; cases h
    | some v =>
      rw [hx] at h
      simp only at h
      cases hr : numsW r with
      | none => rw [hr] at h; cases h
      | some m =>
        rw [hr] at h
        simp only [Option.map_some, Option.some.injEq] at h
        subst h
        obtain ⟨h1, h2⟩ := itoa_numsW r m hr
        obtain ⟨h3, h4⟩ := numW_back hx
        refine ⟨by rw [List.map_cons, h1, h3], ?_⟩
        intro n hn
        rcases List.mem_cons.1 hn with rfl | hn
        · exact h4
        · exact h2 n hn

theorem numsW_len {a : List (List UInt8)} {l : List Int} (h : numsW a = some l) : l.length = a.length := by
  have := congrArg List.length (itoa_numsW a l h).1
  simpa using this

theorem Rc.ints_nums {r : Rc} (h : r.ints) : ∀ n ∈ r.nums, I64 n := by
  obtain ⟨h1, h2, h3, h4, ⟨h5, h6, h7, h8, h9, h10⟩, h11⟩ := h
  intro n hn
  simp only [Rc.nums, List.mem_cons, List.not_mem_nil, or_false] at hn
  rcases hn with rfl | rfl | rfl | rfl | rfl | rfl | rfl | rfl | rfl | rfl | rfl <;> assumption

theorem recOf_nums (r : Rc) : recOf r.nums r.d r.c = r := by
  obtain ⟨k, p, n, y, ⟨F, Q, T, L, B, K⟩, id, d, c⟩ := r
  rfl

theorem words_text (r : Rc) : wordsL r.text = r.words := by
  refine wordsL_join _ (by simp [Rc.words]) ?_
  intro x hx
  simp only [Rc.words, List.mem_append, List.mem_map, List.mem_cons, List.not_mem_nil, or_false] at hx
  rcases hx with ⟨n, _, rfl⟩ | rfl | rfl
  · exact itoa_free n
  · exact hexW_free _
  · exact hexW_free _

/-- what is printed is read -/
theorem read_text {r : Rc} (h : r.ints) : readL r.text = some r := by
  have h1 : numsW (r.nums.map Lib.itoa) = some r.nums := numsW_itoa _ (Rc.ints_nums h)
  have h2 : r.words.take 11 = r.nums.map Lib.itoa := rfl
  have h3 : r.words.getD 11 [] = hexW r.d := rfl
  have h4 : r.words.getD 12 [] = hexW r.c := rfl
  rw [readL, words_text, if_pos (by rfl), h2, h3, h4, h1, byW_hexW, byW_hexW]
  simp only [recOf_nums]

theorem eleven {l : List Int} (h : l.length = 11) (d c : List UInt8) : (recOf l d c).nums = l := by
  match l, h with
  | [a, b, c, d, e, f, g, h, i, j, k], _ => rfl

/-- what is read is printed as it was -/
theorem text_read {s : List UInt8} {r : Rc} (h : readL s = some r) : r.text = s ∧ r.ints := by
  unfold readL at h
  split at h
  · rename_i hl
    cases h1 : numsW ((wordsL s).take 11) with
    | none => rw [h1] at h; cases h
    | some l =>
      cases h2 : byW ((wordsL s).getD 11 []) with
      | none => rw [h1, h2] at h; cases h
      | some d =>
        cases h3 : byW ((wordsL s).getD 12 []) with
        | none => rw [h1, h2, h3] at h; cases h
        | some c =>
          rw [h1, h2, h3] at h
          simp only [Option.some.injEq] at h
          have hll : l.length = 11 := by rw [numsW_len h1, List.length_take, hl]; rfl
          have hn := eleven hll d c
          rw [h] at hn
          have hd : r.d = d := by rw [← h]; rfl
          have hc : r.c = c := by rw [← h]; rfl
          obtain ⟨e1, e2⟩ := itoa_numsW _ _ h1
          constructor
          · rw [Rc.text, Rc.words, hn, hd, hc, e1, hexW_byW h2, hexW_byW h3]
            have e : (wordsL s).take 11 ++ [(wordsL s).getD 11 [], (wordsL s).getD 12 []] = wordsL s := by
              generalize wordsL s = ws at hl
              match ws, hl with
              | [a, b, c, d, e, f, g, h, i, j, k, l, m], _ => rfl
            rw [e, join_wordsL]
          · rw [← hn] at e2
            simp only [Rc.nums, List.mem_cons, List.not_mem_nil, or_false, forall_eq_or_imp, forall_eq] at e2
            obtain ⟨h1, h2, h3, h4, h5, h6, h7, h8, h9, h10, h11⟩ := e2
            exact ⟨h1, h2, h3, h4, ⟨h5, h6, h7, h8, h9, h10⟩, h11⟩
  · cases h

/-- unlike records have unlike texts -/
theorem text_inj {a b : Rc} (ha : a.ints) (hb : b.ints) : a.text = b.text ↔ a = b := by
  constructor
  · intro h
    have := read_text ha
    rw [h, read_text hb] at this
    injection this with this
    exact this.symm
  · rintro rfl; rfl

theorem words_len (r : Rc) (h : r.ints) : r.text.length ≤ 300 + 2 * r.d.length + 2 * r.c.length := by
  have hi := Rc.ints_nums h
  have g : ∀ l : List Int, (∀ n ∈ l, I64 n) → Lib.lens (l.map Lib.itoa) ≤ 21 * l.length := by
    intro l
    induction l with
    | nil => intro _; simp [Lib.lens]
    | cons n l ih =>
      intro hl
      have h1 := Lib.itoa_length_le n (hl n (by simp)).1 (hl n (by simp)).2
      have h2 := ih (fun m hm => hl m (List.mem_cons_of_mem _ hm))
      simp only [Lib.lens, List.map_cons, List.sum_cons, List.length_cons] at h2 ⊢
      omega
  have h1 := g _ hi
  have e : r.words = Lib.itoa r.k :: ([r.p, r.n, r.y, r.h.F, r.h.Q, r.h.T, r.h.L, r.h.B, r.h.K, r.id].map Lib.itoa ++ [hexW r.d, hexW r.c]) := rfl
  have h2 := hexL_len r.d
  have h3 := hexL_len r.c
  rw [Rc.text, e, Lib.join_cons, List.length_append, Lib.joinTail_length]
  simp only [Lib.lens, Rc.nums, hexW, List.map_cons, List.map_nil, List.map_append, List.sum_append, List.sum_cons, List.sum_nil, List.length_cons, List.length_nil, List.length_append, h2, h3] at h1 ⊢
  omega

theorem uses_all {k : Int} {u : List UInt8} (h : usesL k = some u) : u ∈ usesT.map Prod.snd := by
  unfold usesL at h
  cases hf : usesT.find? (fun p => p.1 == k) with
  | none => rw [hf] at h; cases h
  | some q =>
    rw [hf] at h
    simp only [Option.map_some, Option.some.injEq] at h
    subst h
    exact List.mem_map_of_mem (List.mem_of_find?_eq_some hf)

theorem uses_head {k : Int} {u : List UInt8} (h : usesL k = some u) : (hasB u 83 = true → hasB u 72 = true) ∧ (hasB u 67 = true → hasB u 72 = true) := by
  have := uses_all h
  revert this
  generalize u = v
  revert v
  decide

theorem chkP_zero {B K : Int} (h : chkP B K = 0) : 1 ≤ B ∧ B ≤ 360 ∧ 1 ≤ K ∧ K ≤ 16 := by
  unfold chkP at h
  split at h
  · simp at h
  · omega

theorem hdCode_zero {h : Hd} (e : hdCode h = 0) : chkP h.B h.K = 0 := by
  unfold hdCode at e
  split at e
  · simp at e
  · split at e
    · simp at e
    · exact e

theorem chkS_zero {B K id : Int} {n : Nat} (h : chkS B K id n = 0) : chkP B K = 0 ∧ (n : Int) = K := by
  unfold chkS at h
  split at h
  · rename_i hn; exact absurd h hn
  · split at h
    · simp at h
    · split at h
      · simp at h
      · rename_i h1 h2 h3
        exact ⟨by simpa using h1, by simpa using h3⟩

/-- a record that Check takes is short -/
theorem code_short {r : Rc} (h : r.code = 0) : r.d.length ≤ 16 ∧ r.c.length ≤ 360 := by
  obtain ⟨k, p, n, y, hd, id, d, c⟩ := r
  simp only [Rc.code] at h ⊢
  generalize d.length = dn at h ⊢
  generalize c.length = cn at h ⊢
  clear d c
  unfold recCode at h
  cases hu : usesL k with
  | none => rw [hu] at h; simp at h
  | some u =>
    rw [hu] at h
    simp only at h
    obtain ⟨g1, g2⟩ := uses_head hu
    split at h
    · rename_i hf
      simp only [formB, Bool.and_eq_true, Bool.or_eq_true, beq_iff_eq] at hf
      obtain ⟨⟨⟨⟨⟨f1, f2⟩, f3⟩, f4⟩, f5⟩, f6⟩ := hf
      simp only [restCode] at h
      split at h
      · simp at h
      · generalize he1 : (if hasB u 72 = true then hdCode hd else 0) = e1 at h
        generalize he2 : (if e1 = 0 ∧ hasB u 83 = true then chkS hd.B hd.K id dn else e1) = e2 at h
        have h2 : e2 = 0 := by
          split at h
          · simp at h
          · exact h
        have h3 : ¬ (hasB u 67 = true ∧ (cn : Int) ≠ hd.B) := by
          intro hh
          rw [if_pos ⟨h2, hh⟩] at h
          simp at h
        have h1 : e1 = 0 := by
          rw [h2] at he2
          split at he2
          · rename_i hh; exact hh.1
          · exact he2
        have hp : hasB u 72 = true → chkP hd.B hd.K = 0 := by
          intro hh
          rw [if_pos hh, h1] at he1
          exact hdCode_zero he1
        constructor
        · rcases f5 with f5 | f5
          · rw [h2, if_pos ⟨h1, f5⟩] at he2
            obtain ⟨a, b⟩ := chkS_zero he2
            have := chkP_zero a
            omega
          · omega
        · rcases f6 with f6 | f6
          · have := chkP_zero (hp (g2 f6))
            have : (cn : Int) = hd.B := Classical.byContradiction fun hh => h3 ⟨f6, hh⟩
            omega
          · omega
    · simp at h

theorem text_short {r : Rc} (hi : r.ints) (h : r.code = 0) : r.text.length ≤ 60000 := by
  have h1 := words_len r hi
  have h2 := code_short h
  omega

end Go.Proofs.YtekdigbdfeamkaaGreatDoor

/-
  Chapter 7, of no program: Check, as package note goes about it.
-/
namespace Go.Proofs.YtekdigbdfeamkaaGreatDoor
open Go.RowKit
set_option linter.unusedVariables false
set_option linter.unusedSimpArgs false

/-- is it one of these kinds? -/
def inK (k : Int) (l : List Int) : Bool := l.any (· == k)

/-- has the record something that its kind has no use for? -/
def needless (k p n y : Int) (h : Hd) (id : Int) (dn cn : Nat) : Bool :=
  (!(p == 0) && !inK k [4, 6]) || (!(n == 0) && !inK k [1, 4, 6, 8]) || (!(y == 0) && !inK k [4, 5, 6]) || (!decide (h = ⟨0, 0, 0, 0, 0, 0⟩) && inK k [8]) || ((!(id == 0) || decide ((0 : Int) < dn)) && !inK k [2]) || (decide ((0 : Int) < cn) && !inK k [1, 3])

theorem uses_none {k : Int} : usesL k = none ↔ ¬ (1 ≤ k ∧ k ≤ 8) := by
  constructor
  · intro h hk
    have : k = 1 ∨ k = 2 ∨ k = 3 ∨ k = 4 ∨ k = 5 ∨ k = 6 ∨ k = 7 ∨ k = 8 := by omega
    rcases this with rfl | rfl | rfl | rfl | rfl | rfl | rfl | rfl <;> cases h
  · intro hk
    have h1 : ∀ p ∈ usesT, ¬ (p.1 == k) = true := by
      intro p hp
      simp only [usesT, List.mem_cons, List.not_mem_nil, or_false] at hp
      rcases hp with rfl | rfl | rfl | rfl | rfl | rfl | rfl | rfl <;> simp <;> omega
    simp only [usesL, List.find?_eq_none.2 h1, Option.map_none]

theorem uses_eight {k : Int} {u : List UInt8} (h : usesL k = some u) : (k = 1 ∧ u = [78, 72, 67]) ∨ (k = 2 ∧ u = [72, 83]) ∨ (k = 3 ∧ u = [72, 67]) ∨ (k = 4 ∧ u = [80, 78, 84, 72]) ∨ (k = 5 ∧ u = [84, 72]) ∨ (k = 6 ∧ u = [80, 78, 84, 72]) ∨ (k = 7 ∧ u = [72]) ∨ (k = 8 ∧ u = [78]) := by
  by_cases hk : 1 ≤ k ∧ k ≤ 8
  · have : k = 1 ∨ k = 2 ∨ k = 3 ∨ k = 4 ∨ k = 5 ∨ k = 6 ∨ k = 7 ∨ k = 8 := by omega
    rcases this with rfl | rfl | rfl | rfl | rfl | rfl | rfl | rfl <;> (simp only [usesL, usesT] at h; injection h with h; subst h; simp)
  · rw [uses_none.2 hk] at h; cases h

theorem needless_form {k p n y : Int} {h : Hd} {id : Int} {dn cn : Nat} {u : List UInt8} (hu : usesL k = some u) : needless k p n y h id dn cn = !formB u p n y h id dn cn := by
  have hd : decide ((0 : Int) < dn) = !((dn : Int) == 0) := by
    by_cases e : dn = 0
    · subst e; rfl
    · have h1 : ¬ (dn : Int) = 0 := by omega
      have h2 : (0 : Int) < dn := by omega
      rw [decide_eq_true h2, beq_eq_false_iff_ne.2 h1]; rfl
  have hc : decide ((0 : Int) < cn) = !((cn : Int) == 0) := by
    by_cases e : cn = 0
    · subst e; rfl
    · have h1 : ¬ (cn : Int) = 0 := by omega
      have h2 : (0 : Int) < cn := by omega
      rw [decide_eq_true h2, beq_eq_false_iff_ne.2 h1]; rfl
  have b1 : ∀ a : UInt8, a ∈ ([80, 78, 84, 72, 83, 67] : List UInt8) → True := fun _ _ => trivial
  simp only [needless, formB, hd, hc]
  generalize (p == 0) = z1
  generalize (n == 0) = z2
  generalize (y == 0) = z3
  generalize decide (h = ⟨0, 0, 0, 0, 0, 0⟩) = z4
  generalize (id == 0) = z5
  generalize ((dn : Int) == 0) = z6
  generalize ((cn : Int) == 0) = z7
  clear hd hc b1
  rcases uses_eight hu with ⟨rfl, rfl⟩ | ⟨rfl, rfl⟩ | ⟨rfl, rfl⟩ | ⟨rfl, rfl⟩ | ⟨rfl, rfl⟩ | ⟨rfl, rfl⟩ | ⟨rfl, rfl⟩ | ⟨rfl, rfl⟩ <;> (clear hu; revert z1 z2 z3 z4 z5 z6 z7; decide)

/-- what note.Check answers, in its own order -/
def ownCode (k p n y : Int) (h : Hd) (id : Int) (dn cn : Nat) : Int :=
  if ¬ (1 ≤ k ∧ k ≤ 8) then 4
  else if needless k p n y h id dn cn = true then 4
  else if ¬ ((0 ≤ p ∧ p ≤ 3) ∧ (0 ≤ y ∧ y ≤ 9999) ∧ (0 ≤ n ∧ n ≤ 1000000)) then 3
  else if k = 8 then 0
  else if hdCode h ≠ 0 then hdCode h
  else if k = 2 then chkS h.B h.K id dn
  else if (k = 1 ∨ k = 3) ∧ (cn : Int) ≠ h.B then 4
  else 0

theorem ownCode_rec (k p n y : Int) (h : Hd) (id : Int) (dn cn : Nat) : ownCode k p n y h id dn cn = recCode k p n y h id dn cn := by
  unfold ownCode recCode
  cases hu : usesL k with
  | none => rw [if_pos (uses_none.1 hu)]
  | some u =>
    have hk : 1 ≤ k ∧ k ≤ 8 := Classical.byContradiction fun hn => by rw [uses_none.2 hn] at hu; cases hu
    rw [if_neg (by simpa using hk), needless_form hu]
    simp only
    by_cases hf : formB u p n y h id dn cn = true
    · rw [if_neg (by simp [hf]), if_pos hf]
      simp only [restCode]
      by_cases hr : (0 ≤ p ∧ p ≤ 3) ∧ (0 ≤ y ∧ y ≤ 9999) ∧ (0 ≤ n ∧ n ≤ 1000000)
      · have hr' : ¬ ¬ ((0 ≤ p ∧ p ≤ 3) ∧ (0 ≤ y ∧ y ≤ 9999) ∧ (0 ≤ n ∧ n ≤ 1000000)) := fun hh => hh hr
        rw [if_neg hr', if_neg hr']
        generalize hdCode h = e
        generalize chkS h.B h.K id dn = s
        by_cases he : e = 0
        · subst he
          rcases uses_eight hu with ⟨rfl, rfl⟩ | ⟨rfl, rfl⟩ | ⟨rfl, rfl⟩ | ⟨rfl, rfl⟩ | ⟨rfl, rfl⟩ | ⟨rfl, rfl⟩ | ⟨rfl, rfl⟩ | ⟨rfl, rfl⟩ <;> simp [show hasB [78, 72, 67] 72 = true by decide, show hasB [78, 72, 67] 83 = false by decide, show hasB [78, 72, 67] 67 = true by decide, show hasB [72, 83] 72 = true by decide, show hasB [72, 83] 83 = true by decide, show hasB [72, 83] 67 = false by decide, show hasB [72, 67] 72 = true by decide, show hasB [72, 67] 83 = false by decide, show hasB [72, 67] 67 = true by decide, show hasB [80, 78, 84, 72] 72 = true by decide, show hasB [80, 78, 84, 72] 83 = false by decide, show hasB [80, 78, 84, 72] 67 = false by decide, show hasB [84, 72] 72 = true by decide, show hasB [84, 72] 83 = false by decide, show hasB [84, 72] 67 = false by decide, show hasB [72] 72 = true by decide, show hasB [72] 83 = false by decide, show hasB [72] 67 = false by decide, show hasB [78] 72 = false by decide, show hasB [78] 83 = false by decide, show hasB [78] 67 = false by decide]
        · rcases uses_eight hu with ⟨rfl, rfl⟩ | ⟨rfl, rfl⟩ | ⟨rfl, rfl⟩ | ⟨rfl, rfl⟩ | ⟨rfl, rfl⟩ | ⟨rfl, rfl⟩ | ⟨rfl, rfl⟩ | ⟨rfl, rfl⟩ <;> simp [he, show hasB [78, 72, 67] 72 = true by decide, show hasB [78, 72, 67] 83 = false by decide, show hasB [78, 72, 67] 67 = true by decide, show hasB [72, 83] 72 = true by decide, show hasB [72, 83] 83 = true by decide, show hasB [72, 83] 67 = false by decide, show hasB [72, 67] 72 = true by decide, show hasB [72, 67] 83 = false by decide, show hasB [72, 67] 67 = true by decide, show hasB [80, 78, 84, 72] 72 = true by decide, show hasB [80, 78, 84, 72] 83 = false by decide, show hasB [80, 78, 84, 72] 67 = false by decide, show hasB [84, 72] 72 = true by decide, show hasB [84, 72] 83 = false by decide, show hasB [84, 72] 67 = false by decide, show hasB [72] 72 = true by decide, show hasB [72] 83 = false by decide, show hasB [72] 67 = false by decide, show hasB [78] 72 = false by decide, show hasB [78] 83 = false by decide, show hasB [78] 67 = false by decide]
      · rw [if_pos hr, if_pos hr]
    · rw [if_pos (by simpa using hf), if_neg hf]

end Go.Proofs.YtekdigbdfeamkaaGreatDoor

/-
  Chapter 7: the reference's CheckRec as one contract; package note's within and Head.
-/
namespace Go.Proofs.YtekdigbdfeamkaaGreatDoor
open Go.RowKit
set_option linter.unusedVariables false
set_option linter.unusedSimpArgs false

/-- a record as a value -/
def rcV (r : Rc) (da : Option Addr) (dc : Nat) (ca : Option Addr) (cc : Nat) : Value :=
  .agg #[.int .i64 r.k, .int .i64 r.p, .int .i64 r.n, .int .i64 r.y, .int .i64 r.h.F, .int .i64 r.h.Q, .int .i64 r.h.T, .int .i64 r.h.L, .int .i64 r.h.B, .int .i64 r.h.K, .int .i64 r.id, .slice da r.d.length dc, .slice ca r.c.length cc]

theorem wf64 {x : Int} (h : I64 x) : (Lit.int .i64 x).wf = true := by
  obtain ⟨h1, h2⟩ := h
  have m1 : IntKind.i64.min = -9223372036854775808 := by decide
  have m2 : IntKind.i64.max = 9223372036854775807 := by decide
  simp only [Lit.wf, m1, m2]
  simp
  omega

theorem checkRec_any (r : Rc) (da : Option Addr) (dc : Nat) (ca : Option Addr) (cc : Nat) (w : World) (hi : r.ints) (hd : r.d.length ≤ maxLen) :
    Calls Tryz.prog 39 #[rcV r da dc ca cc] w fun e w' => e = .returned (.int .i64 r.code) ∧ Below w.heap.size w w' := by
  obtain ⟨k, p, n, y, h, id, d, c⟩ := r
  obtain ⟨h1, h2, h3, h4, h5, h6⟩ := hi
  simp only [rcV, Rc.code, recCode]
  cases hu : usesL k with
  | none => exact checkRec_none k p n y h id da d.length dc ca c.length cc w (wf64 h1) hu
  | some u =>
    simp only
    by_cases hf : formB u p n y h id d.length c.length = true
    · rw [if_pos hf]
      exact checkRec_good k p n y h id da d.length dc ca c.length cc u w (wf64 h1) hu hf h5 h2 h3 h4 hd
    · rw [if_neg hf]
      exact checkRec_form k p n y h id da d.length dc ca c.length cc u w (wf64 h1) hu (by simpa using hf)

theorem within_any (n a b : Int) (w : World) :
    Calls Tryz.prog 43 #[.int .i64 n, .int .i64 a, .int .i64 b] w fun e w' => e = .returned (.bool (decide (a ≤ n ∧ n ≤ b))) ∧ w = w' := by
  by_cases h : a ≤ n
  · have h1 : (n ≥ a) := h
    go_enter Tryz.func43, Tryz.ntmps43
    go_wp2
    go_ret
    exact ⟨retB (by simp [h]), rfl⟩
  · have hs := Shut.mk (show decide (a ≤ n ∧ n ≤ b) = false by simp [h])
    have h1 : ¬ (n ≥ a) := h
    go_enter Tryz.func43, Tryz.ntmps43
    go_wp2
    go_ret
    exact ⟨retB (by simpa using hs.out.symm), rfl⟩

end Go.Proofs.YtekdigbdfeamkaaGreatDoor

/-
  A region that is walked in parts: the ways through its guarded operations meet again at each part's end.
-/
namespace Go.Proofs.YtekdigbdfeamkaaGreatDoor
open Go.RowKit
set_option linter.unusedVariables false
set_option linter.unusedSimpArgs false

/-- at a part's end the relation R, else as ahead -/
def splitQ (R : Act → World → Prop) (Q : Exit → Act → World → Prop) : Exit → Act → World → Prop
  | .normal, a, w => R a w
  | e, a, w => Q e a w

theorem wp_of_split {P : Program} {o : Oper} {a : Act} {w : World} {K : Act → World → Prop} {R : Act → World → Prop} {Q : Exit → Act → World → Prop} (hh : o.wp P a w K (splitQ R Q)) : o.wp P a w K Q := by
  unfold Oper.wp at *
  generalize (execOp a.eval o).run P w = r at *
  cases r with
  | ok n w' => cases n <;> exact hh
  | halt x w' => cases x <;> exact hh

theorem letsOut_of_split {R : Act → World → Prop} {Q : Exit → Act → World → Prop} (h : LetsOut (splitQ R Q)) : LetsOut Q := h

theorem wpList_split {P : Program} {ops : Array Oper} {R : Act → World → Prop} {Q : Exit → Act → World → Prop} (l2 : List Oper) (h2 : ∀ a w, R a w → wpList P ops Q l2 a w) :
    ∀ (l1 : List Oper) (a : Act) (w : World), wpList P ops (splitQ R Q) l1 a w → wpList P ops Q (l1 ++ l2) a w
  | [], a, w, h => h2 a w h
  | o :: rest, a, w, h => by
    rw [List.cons_append]
    unfold wpList at h ⊢
    split
    · rename_i hw
      rw [if_pos hw] at h
      rcases h with h | ⟨h, h'⟩
      · exact .inl (Oper.wp_mono (fun a w hh => wpList_split l2 h2 rest a w hh) (wp_of_split h))
      · exact .inr ⟨h, letsOut_of_split h'⟩
    · rename_i hw
      rw [if_neg hw] at h
      exact wpList_split l2 h2 rest _ w h

/-- slots that a part has written -/
def puts (a : Act) (vs : List (Nat × Value)) : Act := { a with tmps := vs.foldl (fun t p => t.setIfInBounds p.1 p.2) a.tmps }

theorem part {P : Program} {ops : Array Oper} {Q : Exit → Act → World → Prop} {l : List Oper} {a : Act} {w : World} (k : Nat) (R : Act → Act → World → Prop)
    (h1 : wpList P ops (splitQ (R a) Q) (l.take k) a w) (h2 : ∀ a' w', R a a' w' → wpList P ops Q (l.drop k) a' w') : wpList P ops Q l a w := by
  have := wpList_split (l.drop k) h2 (l.take k) a w h1
  rwa [List.take_append_drop] at this

end Go.Proofs.YtekdigbdfeamkaaGreatDoor
