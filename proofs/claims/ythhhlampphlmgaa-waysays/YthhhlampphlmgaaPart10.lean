import Derived.Test.YthhhlampphlmgaaPart9
import Derived.Test.YthhhlampphlmgaaPart6
import Derived.Test.YthhhlampphlmgaaPart2
/-
  Chapter 10: the law's closed fact: mail that is sent is taken.
-/
namespace Go.Proofs.Ythhhlampphlmgaa
open Go.RowKit
set_option linter.unusedVariables false
set_option linter.unusedSimpArgs false

def pm : Ml := ⟨0, 1, 4, hd0, 0, [], 0, 0⟩
def po : Ml := ⟨1, 0, 3, hd0, 0, [], 2, 1⟩
def pmM : MMl := ⟨pm, none, 0⟩
def poM : MMl := ⟨po, none, 0⟩

theorem pm_code : pm.code = 0 := by decide
theorem po_code : po.code = 0 := by decide
theorem wy1 : wyCode [pm] = 0 := by rw [wyCode, if_neg (by decide), firstBad, if_neg (by rw [pm_code]; decide)]; rfl
theorem wyo : wyCode [po] = 0 := by rw [wyCode, if_neg (by decide), firstBad, if_neg (by rw [po_code]; decide)]; rfl
theorem wy2 : wyCode [pm, po] = 0 := by rw [wyCode, if_neg (by decide), firstBad, if_neg (by rw [pm_code]; decide), firstBad, if_neg (by rw [po_code]; decide)]; rfl
theorem sp_code : sendCode [pm] po = 0 := by rw [sendCode, if_neg (by rw [wy1]; decide), po_code]
theorem sp_list : sendL [pm] po = [pm, po] := rfl
theorem tk_code : takeCode [pm, po] 0 = 0 := by rw [takeCode, if_neg (by rw [wy2]; decide)]; rfl
theorem tk_list : takeL [pm, po] 0 false = [po] := rfl
theorem tl_code : takeCode [po] 1 = 5 := by rw [takeCode, if_neg (by rw [wyo]; decide)]; rfl

theorem pm_ints : pm.ints := by
  refine ⟨?_, ?_, ?_, ⟨?_, ?_, ?_, ?_, ?_, ?_⟩, ?_, ?_, ?_⟩ <;> (constructor <;> decide)
theorem po_ints : po.ints := by
  refine ⟨?_, ?_, ?_, ⟨?_, ?_, ?_, ?_, ?_, ?_⟩, ?_, ?_, ?_⟩ <;> (constructor <;> decide)
theorem pm_ok {x : MMl} (h : x.m = pm) : MlOk x := ⟨by rw [h]; exact pm_ints, by rw [h]; exact Nat.zero_le _⟩
theorem po_ok {x : MMl} (h : x.m = po) : MlOk x := ⟨by rw [h]; exact po_ints, by rw [h]; exact Nat.zero_le _⟩

theorem ListNew.lies {B : Nat} {w : World} {l : List Ml} {L : List MMl} {p : Option Addr} {cp : Nat} (h : ListNew B w l L p cp) : Lies w p (mailCells L) := by
  obtain ⟨_, _, e1, e2, _⟩ := own_gen h.2.1
  simp only [Value.slice.injEq] at e1
  obtain ⟨rfl, _, _⟩ := e1
  exact e2

theorem one_of {L : List MMl} {a : Ml} (h : L.map MMl.m = [a]) : ∃ x, L = [x] ∧ x.m = a := by
  rcases L with _ | ⟨x, _ | ⟨y, r⟩⟩
  · simp at h
  · exact ⟨x, rfl, by simpa using h⟩
  · simp at h

theorem two_of {L : List MMl} {a b : Ml} (h : L.map MMl.m = [a, b]) : ∃ x y, L = [x, y] ∧ x.m = a ∧ y.m = b := by
  rcases L with _ | ⟨x, _ | ⟨y, _ | ⟨z, r⟩⟩⟩
  · simp at h
  · simp at h
  · simp at h
    exact ⟨x, y, rfl, h.1, h.2⟩
  · simp at h

/-- one mail in an array of its own -/
theorem oneMail {W : World} {g : Nat} {y : MMl} (h : W.heap[g]? = some (.cells y.cells.toArray 34 (0, 0))) : Lies W (some ⟨g, 0, none⟩) (mailCells [y]) := by
  have := Lies.of_block h
  simpa [mailCells] using this

theorem emptyIn (W : World) {y : MMl} (h : y.m.d = []) : MailIn W y := by
  intro k u hu
  rw [h] at hu
  simp [bs] at hu

set_option maxHeartbeats 4000000 in
set_option maxRecDepth 8000 in
theorem posted_any (w : World) : Calls Try.prog 8 #[] w fun e w' => e = .returned (.bool true) ∧ Below w.heap.size w w' := by
  go_enter Try.func8, Try.ntmps8
  go_wp2_with fail
  refine (lawHead_any w).mono ?_
  rintro e W0 ⟨rfl, hb0⟩
  go_upto_region 2 with fail
  obtain ⟨W1, hW1⟩ : ∃ W1, W0.alloc (.cells #[.int .i64 0, .int .i64 1, .int .i64 4, .int .i64 1, .int .i64 0, .int .i64 2, .int .i64 50, .int .i64 2, .int .i64 1, .int .i64 0, .slice none 0 0, .int .i64 0, .int .i64 0] 34) = W1 := ⟨_, rfl⟩
  rw [hW1]
  have hb1 : Below W0.heap.size W0 W1 := by rw [← hW1]; exact (Below.refl _ _).alloc (Nat.le_refl _) _
  have hg1 : W1.heap[W0.heap.size]? = some (.cells #[.int .i64 0, .int .i64 1, .int .i64 4, .int .i64 1, .int .i64 0, .int .i64 2, .int .i64 50, .int .i64 2, .int .i64 1, .int .i64 0, .slice none 0 0, .int .i64 0, .int .i64 0] 34 (0, 0)) := by rw [← hW1, heap_alloc_eq, if_pos rfl]
  have hB1 := hb0.trans (hb1.mono hb0.size)
  clear hW1 hb1
  go_wp2_with fail
  refine (lawHead_any W1).mono ?_
  rintro e W2 ⟨rfl, hb2⟩
  have hB2 := hB1.trans (hb2.mono hB1.size)
  have hg2 := blkB hg1 hb2
  clear hg1 hb2
  go_upto_region 3 with fail
  obtain ⟨W3, hW3⟩ : ∃ W3, W2.alloc (.cells #[.int .i64 1, .int .i64 0, .int .i64 3, .int .i64 1, .int .i64 0, .int .i64 2, .int .i64 50, .int .i64 2, .int .i64 1, .int .i64 0, .slice none 0 0, .int .i64 2, .int .i64 1] 34) = W3 := ⟨_, rfl⟩
  rw [hW3]
  have hb3 : Below W2.heap.size W2 W3 := by rw [← hW3]; exact (Below.refl _ _).alloc (Nat.le_refl _) _
  have ho3 : W3.heap[W2.heap.size]? = some (.cells #[.int .i64 1, .int .i64 0, .int .i64 3, .int .i64 1, .int .i64 0, .int .i64 2, .int .i64 50, .int .i64 2, .int .i64 1, .int .i64 0, .slice none 0 0, .int .i64 2, .int .i64 1] 34 (0, 0)) := by rw [← hW3, heap_alloc_eq, if_pos rfl]
  have hg3 := blkB hg2 hb3
  have hB3 := hB2.trans (hb3.mono hB2.size)
  clear hW3 hb3 hg2
  obtain ⟨W4, hW4⟩ : ∃ W4, W3.alloc (.cells #[.int .i64 0, .int .i64 1, .int .i64 4, .int .i64 1, .int .i64 0, .int .i64 2, .int .i64 50, .int .i64 2, .int .i64 1, .int .i64 0, .slice none 0 0, .int .i64 0, .int .i64 0] 34) = W4 := ⟨_, rfl⟩
  have hb4 : Below W3.heap.size W3 W4 := by rw [← hW4]; exact (Below.refl _ _).alloc (Nat.le_refl _) _
  have ha4 : W4.heap[W3.heap.size]? = some (.cells #[.int .i64 0, .int .i64 1, .int .i64 4, .int .i64 1, .int .i64 0, .int .i64 2, .int .i64 50, .int .i64 2, .int .i64 1, .int .i64 0, .slice none 0 0, .int .i64 0, .int .i64 0] 34 (0, 0)) := by rw [← hW4, heap_alloc_eq, if_pos rfl]
  have hg4 := blkB hg3 hb4
  have ho4 := blkB ho3 hb4
  have hB4 := hB3.trans (hb4.mono hB3.size)
  have hS : Calls Try.prog 5 #[.slice (some ⟨W3.heap.size, 0, none⟩) 1 1, .agg #[.int .i64 1, .int .i64 0, .int .i64 3, .int .i64 1, .int .i64 0, .int .i64 2, .int .i64 50, .int .i64 2, .int .i64 1, .int .i64 0, .slice none 0 0, .int .i64 2, .int .i64 1]] W4 (fun e w' => SendR W4.heap.size w' [pm] po e ∧ Below W4.heap.size W4 w') := send_any (some ⟨W3.heap.size, 0, none⟩) [pmM] 1 poM W4 (oneMail ha4) (fun x hx => by (obtain rfl : x = pmM := by simpa using hx); exact ⟨emptyIn W4 rfl, pm_ok rfl⟩) (by decide) (by decide) (emptyIn W4 rfl) (po_ok rfl)
  have HW4 := Shut.mk hW4
  have q0 : W3.cell? ⟨W0.heap.size, 0, none⟩ = some (.int .i64 0) := cellB hg3 0 _ rfl
  have q1 : W3.cell? ⟨W0.heap.size, 1, none⟩ = some (.int .i64 1) := cellB hg3 1 _ rfl
  have q2 : W3.cell? ⟨W0.heap.size, 2, none⟩ = some (.int .i64 4) := cellB hg3 2 _ rfl
  have q3 : W3.cell? ⟨W0.heap.size, 3, none⟩ = some (.int .i64 1) := cellB hg3 3 _ rfl
  have q4 : W3.cell? ⟨W0.heap.size, 4, none⟩ = some (.int .i64 0) := cellB hg3 4 _ rfl
  have q5 : W3.cell? ⟨W0.heap.size, 5, none⟩ = some (.int .i64 2) := cellB hg3 5 _ rfl
  have q6 : W3.cell? ⟨W0.heap.size, 6, none⟩ = some (.int .i64 50) := cellB hg3 6 _ rfl
  have q7 : W3.cell? ⟨W0.heap.size, 7, none⟩ = some (.int .i64 2) := cellB hg3 7 _ rfl
  have q8 : W3.cell? ⟨W0.heap.size, 8, none⟩ = some (.int .i64 1) := cellB hg3 8 _ rfl
  have q9 : W3.cell? ⟨W0.heap.size, 9, none⟩ = some (.int .i64 0) := cellB hg3 9 _ rfl
  have q10 : W3.cell? ⟨W0.heap.size, 10, none⟩ = some (.slice none 0 0) := cellB hg3 10 _ rfl
  have q11 : W3.cell? ⟨W0.heap.size, 11, none⟩ = some (.int .i64 0) := cellB hg3 11 _ rfl
  have q12 : W3.cell? ⟨W0.heap.size, 12, none⟩ = some (.int .i64 0) := cellB hg3 12 _ rfl
  have s0 : (W3.alloc (.cells #[.int .i64 0, .int .i64 1, .int .i64 4, .int .i64 1, .int .i64 0, .int .i64 2, .int .i64 50, .int .i64 2, .int .i64 1, .int .i64 0, .slice none 0 0, .int .i64 0, .int .i64 0] 34)).cell? ⟨W2.heap.size, 0, none⟩ = some (.int .i64 1) := by rw [hW4]; exact cellB ho4 0 _ rfl
  have s1 : (W3.alloc (.cells #[.int .i64 0, .int .i64 1, .int .i64 4, .int .i64 1, .int .i64 0, .int .i64 2, .int .i64 50, .int .i64 2, .int .i64 1, .int .i64 0, .slice none 0 0, .int .i64 0, .int .i64 0] 34)).cell? ⟨W2.heap.size, 1, none⟩ = some (.int .i64 0) := by rw [hW4]; exact cellB ho4 1 _ rfl
  have s2 : (W3.alloc (.cells #[.int .i64 0, .int .i64 1, .int .i64 4, .int .i64 1, .int .i64 0, .int .i64 2, .int .i64 50, .int .i64 2, .int .i64 1, .int .i64 0, .slice none 0 0, .int .i64 0, .int .i64 0] 34)).cell? ⟨W2.heap.size, 2, none⟩ = some (.int .i64 3) := by rw [hW4]; exact cellB ho4 2 _ rfl
  have s3 : (W3.alloc (.cells #[.int .i64 0, .int .i64 1, .int .i64 4, .int .i64 1, .int .i64 0, .int .i64 2, .int .i64 50, .int .i64 2, .int .i64 1, .int .i64 0, .slice none 0 0, .int .i64 0, .int .i64 0] 34)).cell? ⟨W2.heap.size, 3, none⟩ = some (.int .i64 1) := by rw [hW4]; exact cellB ho4 3 _ rfl
  have s4 : (W3.alloc (.cells #[.int .i64 0, .int .i64 1, .int .i64 4, .int .i64 1, .int .i64 0, .int .i64 2, .int .i64 50, .int .i64 2, .int .i64 1, .int .i64 0, .slice none 0 0, .int .i64 0, .int .i64 0] 34)).cell? ⟨W2.heap.size, 4, none⟩ = some (.int .i64 0) := by rw [hW4]; exact cellB ho4 4 _ rfl
  have s5 : (W3.alloc (.cells #[.int .i64 0, .int .i64 1, .int .i64 4, .int .i64 1, .int .i64 0, .int .i64 2, .int .i64 50, .int .i64 2, .int .i64 1, .int .i64 0, .slice none 0 0, .int .i64 0, .int .i64 0] 34)).cell? ⟨W2.heap.size, 5, none⟩ = some (.int .i64 2) := by rw [hW4]; exact cellB ho4 5 _ rfl
  have s6 : (W3.alloc (.cells #[.int .i64 0, .int .i64 1, .int .i64 4, .int .i64 1, .int .i64 0, .int .i64 2, .int .i64 50, .int .i64 2, .int .i64 1, .int .i64 0, .slice none 0 0, .int .i64 0, .int .i64 0] 34)).cell? ⟨W2.heap.size, 6, none⟩ = some (.int .i64 50) := by rw [hW4]; exact cellB ho4 6 _ rfl
  have s7 : (W3.alloc (.cells #[.int .i64 0, .int .i64 1, .int .i64 4, .int .i64 1, .int .i64 0, .int .i64 2, .int .i64 50, .int .i64 2, .int .i64 1, .int .i64 0, .slice none 0 0, .int .i64 0, .int .i64 0] 34)).cell? ⟨W2.heap.size, 7, none⟩ = some (.int .i64 2) := by rw [hW4]; exact cellB ho4 7 _ rfl
  have s8 : (W3.alloc (.cells #[.int .i64 0, .int .i64 1, .int .i64 4, .int .i64 1, .int .i64 0, .int .i64 2, .int .i64 50, .int .i64 2, .int .i64 1, .int .i64 0, .slice none 0 0, .int .i64 0, .int .i64 0] 34)).cell? ⟨W2.heap.size, 8, none⟩ = some (.int .i64 1) := by rw [hW4]; exact cellB ho4 8 _ rfl
  have s9 : (W3.alloc (.cells #[.int .i64 0, .int .i64 1, .int .i64 4, .int .i64 1, .int .i64 0, .int .i64 2, .int .i64 50, .int .i64 2, .int .i64 1, .int .i64 0, .slice none 0 0, .int .i64 0, .int .i64 0] 34)).cell? ⟨W2.heap.size, 9, none⟩ = some (.int .i64 0) := by rw [hW4]; exact cellB ho4 9 _ rfl
  have s10 : (W3.alloc (.cells #[.int .i64 0, .int .i64 1, .int .i64 4, .int .i64 1, .int .i64 0, .int .i64 2, .int .i64 50, .int .i64 2, .int .i64 1, .int .i64 0, .slice none 0 0, .int .i64 0, .int .i64 0] 34)).cell? ⟨W2.heap.size, 10, none⟩ = some (.slice none 0 0) := by rw [hW4]; exact cellB ho4 10 _ rfl
  have s11 : (W3.alloc (.cells #[.int .i64 0, .int .i64 1, .int .i64 4, .int .i64 1, .int .i64 0, .int .i64 2, .int .i64 50, .int .i64 2, .int .i64 1, .int .i64 0, .slice none 0 0, .int .i64 0, .int .i64 0] 34)).cell? ⟨W2.heap.size, 11, none⟩ = some (.int .i64 2) := by rw [hW4]; exact cellB ho4 11 _ rfl
  have s12 : (W3.alloc (.cells #[.int .i64 0, .int .i64 1, .int .i64 4, .int .i64 1, .int .i64 0, .int .i64 2, .int .i64 50, .int .i64 2, .int .i64 1, .int .i64 0, .slice none 0 0, .int .i64 0, .int .i64 0] 34)).cell? ⟨W2.heap.size, 12, none⟩ = some (.int .i64 1) := by rw [hW4]; exact cellB ho4 12 _ rfl
  clear hW4 hb4 ha4 hg3 ho3
  go_wp2_with fail
  rw [HW4.out]
  clear HW4 q0 q1 q2 q3 q4 q5 q6 q7 q8 q9 q10 q11 q12 s0 s1 s2 s3 s4 s5 s6 s7 s8 s9 s10 s11 s12
  refine hS.mono ?_
  rintro e W5 ⟨hR, hb5⟩
  rcases hR with ⟨h, _⟩ | ⟨_, L, p, cp, rfl, hcap, hL⟩
  · exact absurd sp_code h
  have hL2 : L.map MMl.m = [pm, po] := hL.1
  obtain ⟨x1, x2, rfl, hx1, hx2⟩ := two_of hL2
  have hB5 := hB4.trans (hb5.mono hB4.size)
  have hg5 := blkB hg4 hb5
  have ho5 := blkB ho4 hb5
  have hlen2 : (sendL [pm] po).length = 2 := rfl
  rw [hlen2] at hcap ⊢
  have hT := take_any p [x1, x2] cp 0 false W5 hL.lies (fun x hx => by
    have hm := (hL.2.2 x hx).1
    rcases List.mem_cons.1 hx with rfl | hx
    · exact ⟨hm, pm_ok hx1⟩
    · obtain rfl : x = x2 := by simpa using hx
      exact ⟨hm, po_ok hx2⟩) hcap (by show 2 ≤ maxLen; unfold maxLen; omega)
  rw [hL2] at hT
  simp only [List.length_cons, List.length_nil] at hT
  clear hS hb5 hg4 ho4 hB4 hL hL2 hcap
  go_wp2_with fail
  refine hT.mono ?_
  rintro e W6 ⟨hR, hb6⟩
  rcases hR with ⟨h, _⟩ | ⟨_, L, p6, cp6, x6, rfl, hcap, hL, hx6, hi6⟩
  · exact absurd tk_code h
  have hL2 : L.map MMl.m = [po] := hL.1
  obtain ⟨x7, rfl, hx7⟩ := one_of hL2
  replace hx6 : pm = x6.m := Option.some.inj hx6
  have hlen1 : (takeL [pm, po] (Int.toNat 0) false).length = 1 := rfl
  rw [hlen1] at hcap ⊢
  have hB6 := hB5.trans (hb6.mono hB5.size)
  have hg6 := blkB hg5 hb6
  have ho6 := blkB ho5 hb6
  clear hT hb6 hg5 ho5 hB5 hlen2 hlen1
  go_upto_region 5 with fail
  obtain ⟨W7, hW7⟩ : ∃ W7, W6.alloc (.cells #[.int .i64 x6.m.f, .int .i64 x6.m.t, .int .i64 x6.m.k, .int .i64 x6.m.h.F, .int .i64 x6.m.h.Q, .int .i64 x6.m.h.T, .int .i64 x6.m.h.L, .int .i64 x6.m.h.B, .int .i64 x6.m.h.K, .int .i64 x6.m.id, .slice x6.da x6.m.d.length x6.dc, .int .i64 x6.m.n, .int .i64 x6.m.y] 34) = W7 := ⟨_, rfl⟩
  rw [hW7]
  have hb7 : Below W6.heap.size W6 W7 := by rw [← hW7]; exact (Below.refl _ _).alloc (Nat.le_refl _) _
  have h67 : W7.heap[W6.heap.size]? = some (.cells #[.int .i64 x6.m.f, .int .i64 x6.m.t, .int .i64 x6.m.k, .int .i64 x6.m.h.F, .int .i64 x6.m.h.Q, .int .i64 x6.m.h.T, .int .i64 x6.m.h.L, .int .i64 x6.m.h.B, .int .i64 x6.m.h.K, .int .i64 x6.m.id, .slice x6.da x6.m.d.length x6.dc, .int .i64 x6.m.n, .int .i64 x6.m.y] 34 (0, 0)) := by rw [← hW7, heap_alloc_eq, if_pos rfl]
  have hB7 := hB6.trans (hb7.mono hB6.size)
  have hg7 := blkB hg6 hb7
  have ho7 := blkB ho6 hb7
  have hL7 := hL.below hb7
  have hT := take_any p6 [x7] cp6 1 true W7 hL7.lies (fun x hx => by
    (obtain rfl : x = x7 := by simpa using hx)
    exact ⟨(hL7.2.2 x hx).1, po_ok hx7⟩) hcap (by show 1 ≤ maxLen; unfold maxLen; omega)
  rw [hL2] at hT
  simp only [List.length_cons, List.length_nil] at hT
  clear hW7 hb7 hg6 ho6 hB6 hL hi6
  go_wp2_with fail
  refine hT.mono ?_
  rintro e W8 ⟨hR, hb8⟩
  rcases hR with ⟨_, rfl⟩ | ⟨h, _⟩
  case inr => rw [tl_code] at h; exact absurd h (by decide)
  rw [tl_code]
  have hB8 := hB7.trans (hb8.mono hB7.size)
  have hg8 := blkB hg7 hb8
  have ho8 := blkB ho7 hb8
  have h68 := blkB h67 hb8
  have hL8 := hL7.below hb8
  clear hT hb8 hg7 ho7 hB7 hL7 h67
  go_upto_region 6 with fail
  obtain ⟨W9, hW9⟩ : ∃ W9, W8.alloc (.cells #[.int .i64 0, .int .i64 0, .int .i64 0, .int .i64 0, .int .i64 0, .int .i64 0, .int .i64 0, .int .i64 0, .int .i64 0, .int .i64 0, .slice none 0 0, .int .i64 0, .int .i64 0] 34) = W9 := ⟨_, rfl⟩
  rw [hW9]
  have hb9 : Below W8.heap.size W8 W9 := by rw [← hW9]; exact (Below.refl _ _).alloc (Nat.le_refl _) _
  have hB9 := hB8.trans (hb9.mono hB8.size)
  have hg9 := blkB hg8 hb9
  have ho9 := blkB ho8 hb9
  have h69 := blkB h68 hb9
  have hL9 := hL8.below hb9
  clear hW9 hb9 hg8 ho8 hB8 hL8 h68
  have q0 : W9.cell? ⟨W0.heap.size, 0, none⟩ = some (.int .i64 0) := cellB hg9 0 _ rfl
  have q1 : W9.cell? ⟨W0.heap.size, 1, none⟩ = some (.int .i64 1) := cellB hg9 1 _ rfl
  have q2 : W9.cell? ⟨W0.heap.size, 2, none⟩ = some (.int .i64 4) := cellB hg9 2 _ rfl
  have q3 : W9.cell? ⟨W0.heap.size, 3, none⟩ = some (.int .i64 1) := cellB hg9 3 _ rfl
  have q4 : W9.cell? ⟨W0.heap.size, 4, none⟩ = some (.int .i64 0) := cellB hg9 4 _ rfl
  have q5 : W9.cell? ⟨W0.heap.size, 5, none⟩ = some (.int .i64 2) := cellB hg9 5 _ rfl
  have q6 : W9.cell? ⟨W0.heap.size, 6, none⟩ = some (.int .i64 50) := cellB hg9 6 _ rfl
  have q7 : W9.cell? ⟨W0.heap.size, 7, none⟩ = some (.int .i64 2) := cellB hg9 7 _ rfl
  have q8 : W9.cell? ⟨W0.heap.size, 8, none⟩ = some (.int .i64 1) := cellB hg9 8 _ rfl
  have q9 : W9.cell? ⟨W0.heap.size, 9, none⟩ = some (.int .i64 0) := cellB hg9 9 _ rfl
  have q10 : W9.cell? ⟨W0.heap.size, 10, none⟩ = some (.slice none 0 0) := cellB hg9 10 _ rfl
  have q11 : W9.cell? ⟨W0.heap.size, 11, none⟩ = some (.int .i64 0) := cellB hg9 11 _ rfl
  have q12 : W9.cell? ⟨W0.heap.size, 12, none⟩ = some (.int .i64 0) := cellB hg9 12 _ rfl
  have s0 : W9.cell? ⟨W2.heap.size, 0, none⟩ = some (.int .i64 1) := cellB ho9 0 _ rfl
  have s1 : W9.cell? ⟨W2.heap.size, 1, none⟩ = some (.int .i64 0) := cellB ho9 1 _ rfl
  have s2 : W9.cell? ⟨W2.heap.size, 2, none⟩ = some (.int .i64 3) := cellB ho9 2 _ rfl
  have s3 : W9.cell? ⟨W2.heap.size, 3, none⟩ = some (.int .i64 1) := cellB ho9 3 _ rfl
  have s4 : W9.cell? ⟨W2.heap.size, 4, none⟩ = some (.int .i64 0) := cellB ho9 4 _ rfl
  have s5 : W9.cell? ⟨W2.heap.size, 5, none⟩ = some (.int .i64 2) := cellB ho9 5 _ rfl
  have s6 : W9.cell? ⟨W2.heap.size, 6, none⟩ = some (.int .i64 50) := cellB ho9 6 _ rfl
  have s7 : W9.cell? ⟨W2.heap.size, 7, none⟩ = some (.int .i64 2) := cellB ho9 7 _ rfl
  have s8 : W9.cell? ⟨W2.heap.size, 8, none⟩ = some (.int .i64 1) := cellB ho9 8 _ rfl
  have s9 : W9.cell? ⟨W2.heap.size, 9, none⟩ = some (.int .i64 0) := cellB ho9 9 _ rfl
  have s10 : W9.cell? ⟨W2.heap.size, 10, none⟩ = some (.slice none 0 0) := cellB ho9 10 _ rfl
  have s11 : W9.cell? ⟨W2.heap.size, 11, none⟩ = some (.int .i64 2) := cellB ho9 11 _ rfl
  have s12 : W9.cell? ⟨W2.heap.size, 12, none⟩ = some (.int .i64 1) := cellB ho9 12 _ rfl
  have r0 : W9.cell? ⟨W6.heap.size, 0, none⟩ = some (.int .i64 x6.m.f) := cellB h69 0 _ rfl
  have r1 : W9.cell? ⟨W6.heap.size, 1, none⟩ = some (.int .i64 x6.m.t) := cellB h69 1 _ rfl
  have r2 : W9.cell? ⟨W6.heap.size, 2, none⟩ = some (.int .i64 x6.m.k) := cellB h69 2 _ rfl
  have r3 : W9.cell? ⟨W6.heap.size, 3, none⟩ = some (.int .i64 x6.m.h.F) := cellB h69 3 _ rfl
  have r4 : W9.cell? ⟨W6.heap.size, 4, none⟩ = some (.int .i64 x6.m.h.Q) := cellB h69 4 _ rfl
  have r5 : W9.cell? ⟨W6.heap.size, 5, none⟩ = some (.int .i64 x6.m.h.T) := cellB h69 5 _ rfl
  have r6 : W9.cell? ⟨W6.heap.size, 6, none⟩ = some (.int .i64 x6.m.h.L) := cellB h69 6 _ rfl
  have r7 : W9.cell? ⟨W6.heap.size, 7, none⟩ = some (.int .i64 x6.m.h.B) := cellB h69 7 _ rfl
  have r8 : W9.cell? ⟨W6.heap.size, 8, none⟩ = some (.int .i64 x6.m.h.K) := cellB h69 8 _ rfl
  have r9 : W9.cell? ⟨W6.heap.size, 9, none⟩ = some (.int .i64 x6.m.id) := cellB h69 9 _ rfl
  have r10 : W9.cell? ⟨W6.heap.size, 10, none⟩ = some (.slice x6.da x6.m.d.length x6.dc) := cellB h69 10 _ rfl
  have r11 : W9.cell? ⟨W6.heap.size, 11, none⟩ = some (.int .i64 x6.m.n) := cellB h69 11 _ rfl
  have r12 : W9.cell? ⟨W6.heap.size, 12, none⟩ = some (.int .i64 x6.m.y) := cellB h69 12 _ rfl
  obtain ⟨Wa, hWa⟩ : ∃ Wa, W9.alloc (.cells #[.int .i64 1, .int .i64 0, .int .i64 3, .int .i64 1, .int .i64 0, .int .i64 2, .int .i64 50, .int .i64 2, .int .i64 1, .int .i64 0, .slice none 0 0, .int .i64 2, .int .i64 1] 34) = Wa := ⟨_, rfl⟩
  have hba : Below W9.heap.size W9 Wa := by rw [← hWa]; exact (Below.refl _ _).alloc (Nat.le_refl _) _
  have haa : Wa.heap[W9.heap.size]? = some (.cells #[.int .i64 1, .int .i64 0, .int .i64 3, .int .i64 1, .int .i64 0, .int .i64 2, .int .i64 50, .int .i64 2, .int .i64 1, .int .i64 0, .slice none 0 0, .int .i64 2, .int .i64 1] 34 (0, 0)) := by rw [← hWa, heap_alloc_eq, if_pos rfl]
  have hLa := hL9.below hba
  have hSm := waySame_any p6 (some ⟨W9.heap.size, 0, none⟩) cp6 1 [x7] [poM] Wa (by show 1 ≤ maxLen; unfold maxLen; omega) (by show 1 ≤ maxLen; unfold maxLen; omega) hLa.lies (oneMail haa) (fun x hx => by
    (obtain rfl : x = x7 := by simpa using hx)
    exact ⟨(hLa.2.2 x hx).1, (po_ok hx7).2⟩) (fun x hx => by
    (obtain rfl : x = poM := by simpa using hx)
    exact ⟨emptyIn Wa rfl, (po_ok rfl).2⟩)
  rw [decide_eq_true (show [x7].map MMl.m = [poM].map MMl.m by simp [hx7, poM])] at hSm
  simp only [List.length_cons, List.length_nil] at hSm
  have HWa := Shut.mk hWa
  have hBa := hB9.trans (hba.mono hB9.size)
  have hga := blkB hg9 hba
  have h6a := blkB h69 hba
  clear hWa hba haa hLa hL9 hg9 ho9 h69 hB9
  go_wp2_with fail
  rw [HWa.out]
  refine hSm.mono ?_
  rintro e Wb ⟨rfl, hbb⟩
  have hBb := hBa.trans (hbb.mono hBa.size)
  have hgb := blkB hga hbb
  have h6b := blkB h6a hbb
  clear hSm hbb hga h6a hBa HWa q0 q1 q2 q3 q4 q5 q6 q7 q8 q9 q10 q11 q12 s0 s1 s2 s3 s4 s5 s6 s7 s8 s9 s10 s11 s12 r0 r1 r2 r3 r4 r5 r6 r7 r8 r9 r10 r11 r12
  have r0 : Wb.cell? ⟨W6.heap.size, 0, none⟩ = some (.int .i64 x6.m.f) := cellB h6b 0 _ rfl
  have r1 : Wb.cell? ⟨W6.heap.size, 1, none⟩ = some (.int .i64 x6.m.t) := cellB h6b 1 _ rfl
  have r2 : Wb.cell? ⟨W6.heap.size, 2, none⟩ = some (.int .i64 x6.m.k) := cellB h6b 2 _ rfl
  have r3 : Wb.cell? ⟨W6.heap.size, 3, none⟩ = some (.int .i64 x6.m.h.F) := cellB h6b 3 _ rfl
  have r4 : Wb.cell? ⟨W6.heap.size, 4, none⟩ = some (.int .i64 x6.m.h.Q) := cellB h6b 4 _ rfl
  have r5 : Wb.cell? ⟨W6.heap.size, 5, none⟩ = some (.int .i64 x6.m.h.T) := cellB h6b 5 _ rfl
  have r6 : Wb.cell? ⟨W6.heap.size, 6, none⟩ = some (.int .i64 x6.m.h.L) := cellB h6b 6 _ rfl
  have r7 : Wb.cell? ⟨W6.heap.size, 7, none⟩ = some (.int .i64 x6.m.h.B) := cellB h6b 7 _ rfl
  have r8 : Wb.cell? ⟨W6.heap.size, 8, none⟩ = some (.int .i64 x6.m.h.K) := cellB h6b 8 _ rfl
  have r9 : Wb.cell? ⟨W6.heap.size, 9, none⟩ = some (.int .i64 x6.m.id) := cellB h6b 9 _ rfl
  have r10 : Wb.cell? ⟨W6.heap.size, 10, none⟩ = some (.slice x6.da x6.m.d.length x6.dc) := cellB h6b 10 _ rfl
  have r11 : Wb.cell? ⟨W6.heap.size, 11, none⟩ = some (.int .i64 x6.m.n) := cellB h6b 11 _ rfl
  have r12 : Wb.cell? ⟨W6.heap.size, 12, none⟩ = some (.int .i64 x6.m.y) := cellB h6b 12 _ rfl
  obtain ⟨Wx, hWx⟩ : ∃ Wx, Wb.alloc (.cells #[.int .i64 x6.m.f, .int .i64 x6.m.t, .int .i64 x6.m.k, .int .i64 x6.m.h.F, .int .i64 x6.m.h.Q, .int .i64 x6.m.h.T, .int .i64 x6.m.h.L, .int .i64 x6.m.h.B, .int .i64 x6.m.h.K, .int .i64 x6.m.id, .slice x6.da x6.m.d.length x6.dc, .int .i64 x6.m.n, .int .i64 x6.m.y] 34) = Wx := ⟨_, rfl⟩
  have hgx := blkB hgb (show Below Wb.heap.size Wb Wx by rw [← hWx]; exact (Below.refl _ _).alloc (Nat.le_refl _) _)
  have q0 : (Wb.alloc (.cells #[.int .i64 x6.m.f, .int .i64 x6.m.t, .int .i64 x6.m.k, .int .i64 x6.m.h.F, .int .i64 x6.m.h.Q, .int .i64 x6.m.h.T, .int .i64 x6.m.h.L, .int .i64 x6.m.h.B, .int .i64 x6.m.h.K, .int .i64 x6.m.id, .slice x6.da x6.m.d.length x6.dc, .int .i64 x6.m.n, .int .i64 x6.m.y] 34)).cell? ⟨W0.heap.size, 0, none⟩ = some (.int .i64 0) := by rw [hWx]; exact cellB hgx 0 _ rfl
  have q1 : (Wb.alloc (.cells #[.int .i64 x6.m.f, .int .i64 x6.m.t, .int .i64 x6.m.k, .int .i64 x6.m.h.F, .int .i64 x6.m.h.Q, .int .i64 x6.m.h.T, .int .i64 x6.m.h.L, .int .i64 x6.m.h.B, .int .i64 x6.m.h.K, .int .i64 x6.m.id, .slice x6.da x6.m.d.length x6.dc, .int .i64 x6.m.n, .int .i64 x6.m.y] 34)).cell? ⟨W0.heap.size, 1, none⟩ = some (.int .i64 1) := by rw [hWx]; exact cellB hgx 1 _ rfl
  have q2 : (Wb.alloc (.cells #[.int .i64 x6.m.f, .int .i64 x6.m.t, .int .i64 x6.m.k, .int .i64 x6.m.h.F, .int .i64 x6.m.h.Q, .int .i64 x6.m.h.T, .int .i64 x6.m.h.L, .int .i64 x6.m.h.B, .int .i64 x6.m.h.K, .int .i64 x6.m.id, .slice x6.da x6.m.d.length x6.dc, .int .i64 x6.m.n, .int .i64 x6.m.y] 34)).cell? ⟨W0.heap.size, 2, none⟩ = some (.int .i64 4) := by rw [hWx]; exact cellB hgx 2 _ rfl
  have q3 : (Wb.alloc (.cells #[.int .i64 x6.m.f, .int .i64 x6.m.t, .int .i64 x6.m.k, .int .i64 x6.m.h.F, .int .i64 x6.m.h.Q, .int .i64 x6.m.h.T, .int .i64 x6.m.h.L, .int .i64 x6.m.h.B, .int .i64 x6.m.h.K, .int .i64 x6.m.id, .slice x6.da x6.m.d.length x6.dc, .int .i64 x6.m.n, .int .i64 x6.m.y] 34)).cell? ⟨W0.heap.size, 3, none⟩ = some (.int .i64 1) := by rw [hWx]; exact cellB hgx 3 _ rfl
  have q4 : (Wb.alloc (.cells #[.int .i64 x6.m.f, .int .i64 x6.m.t, .int .i64 x6.m.k, .int .i64 x6.m.h.F, .int .i64 x6.m.h.Q, .int .i64 x6.m.h.T, .int .i64 x6.m.h.L, .int .i64 x6.m.h.B, .int .i64 x6.m.h.K, .int .i64 x6.m.id, .slice x6.da x6.m.d.length x6.dc, .int .i64 x6.m.n, .int .i64 x6.m.y] 34)).cell? ⟨W0.heap.size, 4, none⟩ = some (.int .i64 0) := by rw [hWx]; exact cellB hgx 4 _ rfl
  have q5 : (Wb.alloc (.cells #[.int .i64 x6.m.f, .int .i64 x6.m.t, .int .i64 x6.m.k, .int .i64 x6.m.h.F, .int .i64 x6.m.h.Q, .int .i64 x6.m.h.T, .int .i64 x6.m.h.L, .int .i64 x6.m.h.B, .int .i64 x6.m.h.K, .int .i64 x6.m.id, .slice x6.da x6.m.d.length x6.dc, .int .i64 x6.m.n, .int .i64 x6.m.y] 34)).cell? ⟨W0.heap.size, 5, none⟩ = some (.int .i64 2) := by rw [hWx]; exact cellB hgx 5 _ rfl
  have q6 : (Wb.alloc (.cells #[.int .i64 x6.m.f, .int .i64 x6.m.t, .int .i64 x6.m.k, .int .i64 x6.m.h.F, .int .i64 x6.m.h.Q, .int .i64 x6.m.h.T, .int .i64 x6.m.h.L, .int .i64 x6.m.h.B, .int .i64 x6.m.h.K, .int .i64 x6.m.id, .slice x6.da x6.m.d.length x6.dc, .int .i64 x6.m.n, .int .i64 x6.m.y] 34)).cell? ⟨W0.heap.size, 6, none⟩ = some (.int .i64 50) := by rw [hWx]; exact cellB hgx 6 _ rfl
  have q7 : (Wb.alloc (.cells #[.int .i64 x6.m.f, .int .i64 x6.m.t, .int .i64 x6.m.k, .int .i64 x6.m.h.F, .int .i64 x6.m.h.Q, .int .i64 x6.m.h.T, .int .i64 x6.m.h.L, .int .i64 x6.m.h.B, .int .i64 x6.m.h.K, .int .i64 x6.m.id, .slice x6.da x6.m.d.length x6.dc, .int .i64 x6.m.n, .int .i64 x6.m.y] 34)).cell? ⟨W0.heap.size, 7, none⟩ = some (.int .i64 2) := by rw [hWx]; exact cellB hgx 7 _ rfl
  have q8 : (Wb.alloc (.cells #[.int .i64 x6.m.f, .int .i64 x6.m.t, .int .i64 x6.m.k, .int .i64 x6.m.h.F, .int .i64 x6.m.h.Q, .int .i64 x6.m.h.T, .int .i64 x6.m.h.L, .int .i64 x6.m.h.B, .int .i64 x6.m.h.K, .int .i64 x6.m.id, .slice x6.da x6.m.d.length x6.dc, .int .i64 x6.m.n, .int .i64 x6.m.y] 34)).cell? ⟨W0.heap.size, 8, none⟩ = some (.int .i64 1) := by rw [hWx]; exact cellB hgx 8 _ rfl
  have q9 : (Wb.alloc (.cells #[.int .i64 x6.m.f, .int .i64 x6.m.t, .int .i64 x6.m.k, .int .i64 x6.m.h.F, .int .i64 x6.m.h.Q, .int .i64 x6.m.h.T, .int .i64 x6.m.h.L, .int .i64 x6.m.h.B, .int .i64 x6.m.h.K, .int .i64 x6.m.id, .slice x6.da x6.m.d.length x6.dc, .int .i64 x6.m.n, .int .i64 x6.m.y] 34)).cell? ⟨W0.heap.size, 9, none⟩ = some (.int .i64 0) := by rw [hWx]; exact cellB hgx 9 _ rfl
  have q10 : (Wb.alloc (.cells #[.int .i64 x6.m.f, .int .i64 x6.m.t, .int .i64 x6.m.k, .int .i64 x6.m.h.F, .int .i64 x6.m.h.Q, .int .i64 x6.m.h.T, .int .i64 x6.m.h.L, .int .i64 x6.m.h.B, .int .i64 x6.m.h.K, .int .i64 x6.m.id, .slice x6.da x6.m.d.length x6.dc, .int .i64 x6.m.n, .int .i64 x6.m.y] 34)).cell? ⟨W0.heap.size, 10, none⟩ = some (.slice none 0 0) := by rw [hWx]; exact cellB hgx 10 _ rfl
  have q11 : (Wb.alloc (.cells #[.int .i64 x6.m.f, .int .i64 x6.m.t, .int .i64 x6.m.k, .int .i64 x6.m.h.F, .int .i64 x6.m.h.Q, .int .i64 x6.m.h.T, .int .i64 x6.m.h.L, .int .i64 x6.m.h.B, .int .i64 x6.m.h.K, .int .i64 x6.m.id, .slice x6.da x6.m.d.length x6.dc, .int .i64 x6.m.n, .int .i64 x6.m.y] 34)).cell? ⟨W0.heap.size, 11, none⟩ = some (.int .i64 0) := by rw [hWx]; exact cellB hgx 11 _ rfl
  have q12 : (Wb.alloc (.cells #[.int .i64 x6.m.f, .int .i64 x6.m.t, .int .i64 x6.m.k, .int .i64 x6.m.h.F, .int .i64 x6.m.h.Q, .int .i64 x6.m.h.T, .int .i64 x6.m.h.L, .int .i64 x6.m.h.B, .int .i64 x6.m.h.K, .int .i64 x6.m.id, .slice x6.da x6.m.d.length x6.dc, .int .i64 x6.m.n, .int .i64 x6.m.y] 34)).cell? ⟨W0.heap.size, 12, none⟩ = some (.int .i64 0) := by rw [hWx]; exact cellB hgx 12 _ rfl
  clear hgx hWx
  obtain ⟨Wc, hWc⟩ : ∃ Wc, (Wb.alloc (.cells #[.int .i64 x6.m.f, .int .i64 x6.m.t, .int .i64 x6.m.k, .int .i64 x6.m.h.F, .int .i64 x6.m.h.Q, .int .i64 x6.m.h.T, .int .i64 x6.m.h.L, .int .i64 x6.m.h.B, .int .i64 x6.m.h.K, .int .i64 x6.m.id, .slice x6.da x6.m.d.length x6.dc, .int .i64 x6.m.n, .int .i64 x6.m.y] 34)).alloc (.cells #[.int .i64 0, .int .i64 1, .int .i64 4, .int .i64 1, .int .i64 0, .int .i64 2, .int .i64 50, .int .i64 2, .int .i64 1, .int .i64 0, .slice none 0 0, .int .i64 0, .int .i64 0] 34) = Wc := ⟨_, rfl⟩
  have hbc : Below Wb.heap.size Wb Wc := by rw [← hWc]; exact ((Below.refl _ _).alloc (Nat.le_refl _) _).alloc (by simp) _
  have hac : Wc.heap[Wb.heap.size]? = some (.cells #[.int .i64 x6.m.f, .int .i64 x6.m.t, .int .i64 x6.m.k, .int .i64 x6.m.h.F, .int .i64 x6.m.h.Q, .int .i64 x6.m.h.T, .int .i64 x6.m.h.L, .int .i64 x6.m.h.B, .int .i64 x6.m.h.K, .int .i64 x6.m.id, .slice x6.da x6.m.d.length x6.dc, .int .i64 x6.m.n, .int .i64 x6.m.y] 34 (0, 0)) := by rw [← hWc, heap_alloc_eq, if_neg (by simp), heap_alloc_eq, if_pos rfl]
  have hap : Wc.heap[Wb.heap.size + 1]? = some (.cells #[.int .i64 0, .int .i64 1, .int .i64 4, .int .i64 1, .int .i64 0, .int .i64 2, .int .i64 50, .int .i64 2, .int .i64 1, .int .i64 0, .slice none 0 0, .int .i64 0, .int .i64 0] 34 (0, 0)) := by rw [← hWc, heap_alloc_eq, if_pos (by simp)]
  have hSm := waySame_any (some ⟨Wb.heap.size, 0, none⟩) (some ⟨Wb.heap.size + 1, 0, none⟩) 1 1 [x6] [pmM] Wc (by show 1 ≤ maxLen; unfold maxLen; omega) (by show 1 ≤ maxLen; unfold maxLen; omega) (oneMail hac) (oneMail hap) (fun x hx => by
    (obtain rfl : x = x6 := by simpa using hx)
    exact ⟨emptyIn Wc (by rw [← hx6]; rfl), (pm_ok hx6.symm).2⟩) (fun x hx => by
    (obtain rfl : x = pmM := by simpa using hx)
    exact ⟨emptyIn Wc rfl, (pm_ok rfl).2⟩)
  rw [decide_eq_true (show [x6].map MMl.m = [pmM].map MMl.m by simp [← hx6, pmM])] at hSm
  simp only [List.length_cons, List.length_nil] at hSm
  have HWc := Shut.mk hWc
  have hBc := hBb.trans (hbc.mono hBb.size)
  clear hWc hbc hac hap hgb h6b hBb
  go_wp2_with fail
  rw [HWc.out]
  refine hSm.mono ?_
  rintro e Wd ⟨rfl, hbd⟩
  have hF := hBc.trans (hbd.mono hBc.size)
  clear hSm hbd hBc
  go_wp2
  go_ret
  exact ⟨rfl, hF⟩

end Go.Proofs.Ythhhlampphlmgaa

/-
  'at' of the statements: its contract.
-/
namespace Go.Proofs.Ythhhlampphlmgaa
open Go.RowKit
set_option linter.unusedVariables false
set_option linter.unusedSimpArgs false

/-- a number brought among so many -/
def atN (k n : Int) : Int := if k.tmod n < 0 then k.tmod n + n else k.tmod n

theorem atN_lt (k : Int) {n : Int} (h : 0 < n) : 0 ≤ atN k n ∧ atN k n < n := by
  unfold atN
  have h1 := Int.tmod_lt_of_pos k h
  have h2 := Int.lt_tmod_of_pos k h
  split <;> omega

theorem at_any (k n : Int) (w : World) (hk : -9223372036854775808 ≤ k ∧ k ≤ 9223372036854775807) (hn : 0 < n) (hn2 : n ≤ 9223372036854775807) :
    Calls Try.prog 14 #[.int .i64 k, .int .i64 n] w fun e w' => e = .returned (.int .i64 (atN k n)) ∧ w = w' := by
  obtain ⟨hk1, hk2⟩ := hk
  have h1 := Int.tmod_lt_of_pos k hn
  have h2 := Int.lt_tmod_of_pos k hn
  have hn0 : (n == 0) = false := by rw [beq_eq_false_iff_ne]; omega
  have HA : Hid (atN k n = if k.tmod n < 0 then k.tmod n + n else k.tmod n) := rfl
  go_enter Try.func14, Try.ntmps14
  go_wp2
  · go_ret
    exact ⟨ret_int (by rw [HA.out, if_pos (by assumption)]), rfl⟩
  · go_ret
    exact ⟨ret_int (by rw [HA.out, if_neg (by omega)]), rfl⟩

end Go.Proofs.Ythhhlampphlmgaa
