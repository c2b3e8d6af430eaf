import Derived.Test.YtekdigbdfeamkaaGreatDoorPart11
/-
  Chapter 7: package note's Parse.
-/
namespace Go.Proofs.YtekdigbdfeamkaaGreatDoor
open Go.RowKit
set_option linter.unusedVariables false
set_option linter.unusedSimpArgs false

/-- what Parse says of a text -/
def pCode (s : List UInt8) : Int :=
  if 60000 < s.length then 2 else match readL s with
    | none => 1
    | some r => r.code

/-- what Parse leaves -/
def ParseR (s : List UInt8) (e : Ending) (w' : World) : Prop :=
  (pCode s ≠ 0 ∧ e = .returned (.tuple #[rcV rc0 none 0 none 0, .int .i64 (pCode s)])) ∨
  (pCode s = 0 ∧ ∃ (r : Rc) (da : Option Addr) (dc : Nat) (ca : Option Addr) (cc : Nat), readL s = some r ∧ r.code = 0 ∧ e = .returned (.tuple #[rcV r da dc ca cc, .int .i64 0]) ∧ Lies w' da (bs r.d) ∧ Lies w' ca (bs r.c))

/-- what Parse leaves, its memory new -/
def ParseF (B : Nat) (s : List UInt8) (e : Ending) (w' : World) : Prop :=
  (pCode s ≠ 0 ∧ e = .returned (.tuple #[rcV rc0 none 0 none 0, .int .i64 (pCode s)])) ∨
  (pCode s = 0 ∧ ∃ (r : Rc) (da : Option Addr) (dc : Nat) (ca : Option Addr) (cc : Nat), readL s = some r ∧ r.code = 0 ∧ e = .returned (.tuple #[rcV r da dc ca cc, .int .i64 0]) ∧ Lies w' da (bs r.d) ∧ Lies w' ca (bs r.c) ∧ (∀ b o, da = some ⟨b, o, none⟩ → B ≤ b) ∧ (∀ b o, ca = some ⟨b, o, none⟩ → B ≤ b))

theorem ParseF.weak {B : Nat} {s : List UInt8} {e : Ending} {w' : World} (h : ParseF B s e w') : ParseR s e w' := by
  rcases h with h | ⟨h1, r, da, dc, ca, cc, h2, h3, h4, h5, h6, _⟩
  · exact Or.inl h
  · exact Or.inr ⟨h1, r, da, dc, ca, cc, h2, h3, h4, h5, h6⟩

theorem read_short {s : List UInt8} {r : Rc} (h : readL s = some r) : 2 * r.d.length + 1 ≤ s.length ∧ 2 * r.c.length + 1 ≤ s.length := by
  obtain ⟨h1, h2⟩ := text_read h
  have hw := words_text r
  rw [h1] at hw
  have h3 := wordsL_short s (hexW r.d) (by rw [hw]; simp [Rc.words])
  have h4 := wordsL_short s (hexW r.c) (by rw [hw]; simp [Rc.words])
  rw [hexW_len] at h3 h4
  exact ⟨h3, h4⟩

set_option maxHeartbeats 1000000 in
set_option maxRecDepth 8000 in
theorem parse_long (s : ByteArray) (w : World) (hs : 60000 < s.size) :
    Calls Tryz.prog 53 #[.string s] w fun e w' => Below w.heap.size w w' ∧ e = .returned (.tuple #[rcV rc0 none 0 none 0, .int .i64 2]) := by
  have hs' : (s.size : Int) > 60000 := by omega
  go_enter Tryz.func53, Tryz.ntmps53
  go_wp2
  refine bodyPost_ret (v := .tuple #[rcV rc0 none 0 none 0, .int .i64 2]) (by simp [results, Tryz.results53, go_sem, rcV, rc0]) rfl ?_
  exact ⟨(Below.refl _ _).alloc (Nat.le_refl _) _, rfl⟩

set_option maxHeartbeats 2000000 in
set_option maxRecDepth 8000 in
theorem parse_fits (s : ByteArray) (w : World) (hs : s.size ≤ 60000) (hL : LaidN w) :
    Calls Tryz.prog 53 #[.string s] w fun e w' => Below w.heap.size w w' ∧ ParseF w.heap.size s.data.toList e w' := by
  have hs' : ¬ (s.size : Int) > 60000 := by omega
  have hlen : ¬ 60000 < s.data.toList.length := by rw [sizeB]; omega
  obtain ⟨W, hW⟩ : ∃ W, w.alloc (.cells #[.int .i64 0, .int .i64 0, .int .i64 0, .int .i64 0, .int .i64 0, .int .i64 0, .int .i64 0, .int .i64 0, .int .i64 0, .int .i64 0, .int .i64 0, .slice none 0 0, .slice none 0 0] 33) = W := ⟨_, rfl⟩
  have hBW : Below w.heap.size w W := by rw [← hW]; exact (Below.refl _ _).alloc (Nat.le_refl _) _
  have hbW : W.heap[w.heap.size]? = some (.cells #[.int .i64 0, .int .i64 0, .int .i64 0, .int .i64 0, .int .i64 0, .int .i64 0, .int .i64 0, .int .i64 0, .int .i64 0, .int .i64 0, .int .i64 0, .slice none 0 0, .slice none 0 0] 33 (0, 0)) := by rw [← hW, heap_alloc_eq, if_pos rfl]
  have hR := read_any s W hs (hL.below hBW)
  go_enter Tryz.func53, Tryz.ntmps53
  go_wp2_with fail
  refine hR.mono ?_
  rintro e W1 ⟨hb1, hr⟩
  have hF1 := hBW.trans (hb1.mono hBW.size)
  have hg1 := blkB hbW hb1
  have hw1 : w.heap.size < W1.heap.size := (Array.getElem?_eq_some_iff.1 hg1).1
  have hws : W.heap.size = w.heap.size + 1 := by rw [← hW]; simp
  clear hR hW hL hBW hb1 hbW
  cases hrd : readL s.data.toList with
  | none =>
    rw [hrd] at hr
    obtain rfl := (show e = .returned (.tuple #[rcV rc0 none 0 none 0, .bool false]) from hr)
    have HP : Shut (pCode s.data.toList = 1) := ⟨by rw [pCode, if_neg hlen, hrd]⟩
    clear hr hrd hlen
    simp only [rcV, rc0, List.length_nil]
    go_upto_region 4 with fail
    generalize hW2 : W1.alloc (.cells #[.int .i64 0, .int .i64 0, .int .i64 0, .int .i64 0, .int .i64 0, .int .i64 0, .int .i64 0, .int .i64 0, .int .i64 0, .int .i64 0, .int .i64 0, .slice none 0 0, .slice none 0 0] 33) = W2
    have hb2 : Below W1.heap.size W1 W2 := by rw [← hW2]; exact (Below.refl _ _).alloc (Nat.le_refl _) _
    have hg2 := blkB hg1 hb2
    have hF2 := hF1.trans (hb2.mono hF1.size)
    clear hb2 hW2
    have z0 : W2.cell? ⟨w.heap.size, 0, none⟩ = some (.int .i64 0) := cellB hg2 0 _ rfl
    have f0 : W2.frozen? ⟨w.heap.size, 0, none⟩ = false := by simp [World.frozen?, hg2]
    have z1 : W2.cell? ⟨w.heap.size, 1, none⟩ = some (.int .i64 0) := cellB hg2 1 _ rfl
    have f1 : W2.frozen? ⟨w.heap.size, 1, none⟩ = false := by simp [World.frozen?, hg2]
    have z2 : W2.cell? ⟨w.heap.size, 2, none⟩ = some (.int .i64 0) := cellB hg2 2 _ rfl
    have f2 : W2.frozen? ⟨w.heap.size, 2, none⟩ = false := by simp [World.frozen?, hg2]
    have z3 : W2.cell? ⟨w.heap.size, 3, none⟩ = some (.int .i64 0) := cellB hg2 3 _ rfl
    have f3 : W2.frozen? ⟨w.heap.size, 3, none⟩ = false := by simp [World.frozen?, hg2]
    have z4 : W2.cell? ⟨w.heap.size, 4, none⟩ = some (.int .i64 0) := cellB hg2 4 _ rfl
    have f4 : W2.frozen? ⟨w.heap.size, 4, none⟩ = false := by simp [World.frozen?, hg2]
    have z5 : W2.cell? ⟨w.heap.size, 5, none⟩ = some (.int .i64 0) := cellB hg2 5 _ rfl
    have f5 : W2.frozen? ⟨w.heap.size, 5, none⟩ = false := by simp [World.frozen?, hg2]
    have z6 : W2.cell? ⟨w.heap.size, 6, none⟩ = some (.int .i64 0) := cellB hg2 6 _ rfl
    have f6 : W2.frozen? ⟨w.heap.size, 6, none⟩ = false := by simp [World.frozen?, hg2]
    have z7 : W2.cell? ⟨w.heap.size, 7, none⟩ = some (.int .i64 0) := cellB hg2 7 _ rfl
    have f7 : W2.frozen? ⟨w.heap.size, 7, none⟩ = false := by simp [World.frozen?, hg2]
    have z8 : W2.cell? ⟨w.heap.size, 8, none⟩ = some (.int .i64 0) := cellB hg2 8 _ rfl
    have f8 : W2.frozen? ⟨w.heap.size, 8, none⟩ = false := by simp [World.frozen?, hg2]
    have z9 : W2.cell? ⟨w.heap.size, 9, none⟩ = some (.int .i64 0) := cellB hg2 9 _ rfl
    have f9 : W2.frozen? ⟨w.heap.size, 9, none⟩ = false := by simp [World.frozen?, hg2]
    have z10 : W2.cell? ⟨w.heap.size, 10, none⟩ = some (.int .i64 0) := cellB hg2 10 _ rfl
    have f10 : W2.frozen? ⟨w.heap.size, 10, none⟩ = false := by simp [World.frozen?, hg2]
    have z11 : W2.cell? ⟨w.heap.size, 11, none⟩ = some (.slice none 0 0) := cellB hg2 11 _ rfl
    have f11 : W2.frozen? ⟨w.heap.size, 11, none⟩ = false := by simp [World.frozen?, hg2]
    have z12 : W2.cell? ⟨w.heap.size, 12, none⟩ = some (.slice none 0 0) := cellB hg2 12 _ rfl
    have f12 : W2.frozen? ⟨w.heap.size, 12, none⟩ = false := by simp [World.frozen?, hg2]
    go_wp2
    obtain ⟨W9, hW9, hb9, hk9, hB9⟩ := box13 W2 w.heap.size 33 _ _ _ _ _ _ _ _ _ _ _ _ _ (.int .i64 0) (.int .i64 0) (.int .i64 0) (.int .i64 0) (.int .i64 0) (.int .i64 0) (.int .i64 0) (.int .i64 0) (.int .i64 0) (.int .i64 0) (.int .i64 0) (.slice none 0 0) (.slice none 0 0) hg2
    rw [hW9]
    have hF9 := hB9 _ _ (Nat.le_refl _) hF2
    clear hW9 hB9 z0 f0 z1 f1 z2 f2 z3 f3 z4 f4 z5 f5 z6 f6 z7 f7 z8 f8 z9 f9 z10 f10 z11 f11 z12 f12
    have z0 : W9.cell? ⟨w.heap.size, 0, none⟩ = some (.int .i64 0) := cellB hb9 0 _ rfl
    have z1 : W9.cell? ⟨w.heap.size, 1, none⟩ = some (.int .i64 0) := cellB hb9 1 _ rfl
    have z2 : W9.cell? ⟨w.heap.size, 2, none⟩ = some (.int .i64 0) := cellB hb9 2 _ rfl
    have z3 : W9.cell? ⟨w.heap.size, 3, none⟩ = some (.int .i64 0) := cellB hb9 3 _ rfl
    have z4 : W9.cell? ⟨w.heap.size, 4, none⟩ = some (.int .i64 0) := cellB hb9 4 _ rfl
    have z5 : W9.cell? ⟨w.heap.size, 5, none⟩ = some (.int .i64 0) := cellB hb9 5 _ rfl
    have z6 : W9.cell? ⟨w.heap.size, 6, none⟩ = some (.int .i64 0) := cellB hb9 6 _ rfl
    have z7 : W9.cell? ⟨w.heap.size, 7, none⟩ = some (.int .i64 0) := cellB hb9 7 _ rfl
    have z8 : W9.cell? ⟨w.heap.size, 8, none⟩ = some (.int .i64 0) := cellB hb9 8 _ rfl
    have z9 : W9.cell? ⟨w.heap.size, 9, none⟩ = some (.int .i64 0) := cellB hb9 9 _ rfl
    have z10 : W9.cell? ⟨w.heap.size, 10, none⟩ = some (.int .i64 0) := cellB hb9 10 _ rfl
    have z11 : W9.cell? ⟨w.heap.size, 11, none⟩ = some (.slice none 0 0) := cellB hb9 11 _ rfl
    have z12 : W9.cell? ⟨w.heap.size, 12, none⟩ = some (.slice none 0 0) := cellB hb9 12 _ rfl
    refine bodyPost_ret (v := .tuple #[rcV rc0 none 0 none 0, .int .i64 1]) (by simp [results, Tryz.results53, go_sem, rcV, rc0, z0, z1, z2, z3, z4, z5, z6, z7, z8, z9, z10, z11, z12]) rfl ?_
    exact ⟨hF9, Or.inl ⟨by rw [HP.out]; decide, by rw [HP.out]⟩⟩
  | some r =>
    rw [hrd] at hr
    obtain ⟨da, dc, ca, cc, rfl, hld, hlc, hfd, hfc⟩ := hr
    have HFD : Shut (∀ b o, da = some ⟨b, o, none⟩ → w.heap.size < b) := ⟨fun b o e => by have := hfd b o e; omega⟩
    have HFC : Shut (∀ b o, ca = some ⟨b, o, none⟩ → w.heap.size < b) := ⟨fun b o e => by have := hfc b o e; omega⟩
    clear hfd hfc
    obtain ⟨_, hri⟩ := text_read hrd
    obtain ⟨sd, sc⟩ := read_short hrd
    rw [sizeB] at sd sc
    have HP : Shut (pCode s.data.toList = r.code) := ⟨by rw [pCode, if_neg hlen, hrd]⟩
    have HRD := Shut.mk hrd
    obtain ⟨W2, hW2⟩ : ∃ W2, W1.alloc (.cells #[.int .i64 r.k, .int .i64 r.p, .int .i64 r.n, .int .i64 r.y, .int .i64 r.h.F, .int .i64 r.h.Q, .int .i64 r.h.T, .int .i64 r.h.L, .int .i64 r.h.B, .int .i64 r.h.K, .int .i64 r.id, .slice da r.d.length dc, .slice ca r.c.length cc] 33) = W2 := ⟨_, rfl⟩
    have hb2 : Below W1.heap.size W1 W2 := by rw [← hW2]; exact (Below.refl _ _).alloc (Nat.le_refl _) _
    have hq2 : W2.heap[W1.heap.size]? = some (.cells #[.int .i64 r.k, .int .i64 r.p, .int .i64 r.n, .int .i64 r.y, .int .i64 r.h.F, .int .i64 r.h.Q, .int .i64 r.h.T, .int .i64 r.h.L, .int .i64 r.h.B, .int .i64 r.h.K, .int .i64 r.id, .slice da r.d.length dc, .slice ca r.c.length cc] 33 (0, 0)) := by rw [← hW2, heap_alloc_eq, if_pos rfl]
    have hg2 := blkB hg1 hb2
    have hF2 := hF1.trans (hb2.mono hF1.size)
    have hC := noteCheck_any r da dc ca cc W2 hri (by unfold maxLen; omega)
    replace hld := hld.below hb2 (Nat.le_refl _)
    replace hlc := hlc.below hb2 (Nat.le_refl _)
    simp only [rcV] at hC ⊢
    clear hb2 hrd hlen hri sd sc
    have q0 : W2.cell? ⟨W1.heap.size, 0, none⟩ = some (.int .i64 r.k) := cellB hq2 0 _ rfl
    have q1 : W2.cell? ⟨W1.heap.size, 1, none⟩ = some (.int .i64 r.p) := cellB hq2 1 _ rfl
    have q2 : W2.cell? ⟨W1.heap.size, 2, none⟩ = some (.int .i64 r.n) := cellB hq2 2 _ rfl
    have q3 : W2.cell? ⟨W1.heap.size, 3, none⟩ = some (.int .i64 r.y) := cellB hq2 3 _ rfl
    have q4 : W2.cell? ⟨W1.heap.size, 4, none⟩ = some (.int .i64 r.h.F) := cellB hq2 4 _ rfl
    have q5 : W2.cell? ⟨W1.heap.size, 5, none⟩ = some (.int .i64 r.h.Q) := cellB hq2 5 _ rfl
    have q6 : W2.cell? ⟨W1.heap.size, 6, none⟩ = some (.int .i64 r.h.T) := cellB hq2 6 _ rfl
    have q7 : W2.cell? ⟨W1.heap.size, 7, none⟩ = some (.int .i64 r.h.L) := cellB hq2 7 _ rfl
    have q8 : W2.cell? ⟨W1.heap.size, 8, none⟩ = some (.int .i64 r.h.B) := cellB hq2 8 _ rfl
    have q9 : W2.cell? ⟨W1.heap.size, 9, none⟩ = some (.int .i64 r.h.K) := cellB hq2 9 _ rfl
    have q10 : W2.cell? ⟨W1.heap.size, 10, none⟩ = some (.int .i64 r.id) := cellB hq2 10 _ rfl
    have q11 : W2.cell? ⟨W1.heap.size, 11, none⟩ = some (.slice da r.d.length dc) := cellB hq2 11 _ rfl
    have q12 : W2.cell? ⟨W1.heap.size, 12, none⟩ = some (.slice ca r.c.length cc) := cellB hq2 12 _ rfl
    go_wp2_with fail
    refine hC.mono ?_
    rintro e W3 ⟨rfl, hb3⟩
    have hg3 := blkB hg2 hb3
    have hq3 := blkB hq2 hb3
    have hF3 := hF2.trans (hb3.mono hF2.size)
    replace hld := hld.below hb3 (Nat.le_refl _)
    replace hlc := hlc.below hb3 (Nat.le_refl _)
    clear hC hb3 hg2 hq2 hF2 hW2 q0 q1 q2 q3 q4 q5 q6 q7 q8 q9 q10 q11 q12
    cases bz : (r.code != 0) with
    | true =>
      have sz : Shut (r.code ≠ 0) := ⟨by simpa using bz⟩
      generalize hz : r.code = z at bz sz HP ⊢
      have z0 : W3.cell? ⟨w.heap.size, 0, none⟩ = some (.int .i64 0) := cellB hg3 0 _ rfl
      have f0 : W3.frozen? ⟨w.heap.size, 0, none⟩ = false := by simp [World.frozen?, hg3]
      have z1 : W3.cell? ⟨w.heap.size, 1, none⟩ = some (.int .i64 0) := cellB hg3 1 _ rfl
      have f1 : W3.frozen? ⟨w.heap.size, 1, none⟩ = false := by simp [World.frozen?, hg3]
      have z2 : W3.cell? ⟨w.heap.size, 2, none⟩ = some (.int .i64 0) := cellB hg3 2 _ rfl
      have f2 : W3.frozen? ⟨w.heap.size, 2, none⟩ = false := by simp [World.frozen?, hg3]
      have z3 : W3.cell? ⟨w.heap.size, 3, none⟩ = some (.int .i64 0) := cellB hg3 3 _ rfl
      have f3 : W3.frozen? ⟨w.heap.size, 3, none⟩ = false := by simp [World.frozen?, hg3]
      have z4 : W3.cell? ⟨w.heap.size, 4, none⟩ = some (.int .i64 0) := cellB hg3 4 _ rfl
      have f4 : W3.frozen? ⟨w.heap.size, 4, none⟩ = false := by simp [World.frozen?, hg3]
      have z5 : W3.cell? ⟨w.heap.size, 5, none⟩ = some (.int .i64 0) := cellB hg3 5 _ rfl
      have f5 : W3.frozen? ⟨w.heap.size, 5, none⟩ = false := by simp [World.frozen?, hg3]
      have z6 : W3.cell? ⟨w.heap.size, 6, none⟩ = some (.int .i64 0) := cellB hg3 6 _ rfl
      have f6 : W3.frozen? ⟨w.heap.size, 6, none⟩ = false := by simp [World.frozen?, hg3]
      have z7 : W3.cell? ⟨w.heap.size, 7, none⟩ = some (.int .i64 0) := cellB hg3 7 _ rfl
      have f7 : W3.frozen? ⟨w.heap.size, 7, none⟩ = false := by simp [World.frozen?, hg3]
      have z8 : W3.cell? ⟨w.heap.size, 8, none⟩ = some (.int .i64 0) := cellB hg3 8 _ rfl
      have f8 : W3.frozen? ⟨w.heap.size, 8, none⟩ = false := by simp [World.frozen?, hg3]
      have z9 : W3.cell? ⟨w.heap.size, 9, none⟩ = some (.int .i64 0) := cellB hg3 9 _ rfl
      have f9 : W3.frozen? ⟨w.heap.size, 9, none⟩ = false := by simp [World.frozen?, hg3]
      have z10 : W3.cell? ⟨w.heap.size, 10, none⟩ = some (.int .i64 0) := cellB hg3 10 _ rfl
      have f10 : W3.frozen? ⟨w.heap.size, 10, none⟩ = false := by simp [World.frozen?, hg3]
      have z11 : W3.cell? ⟨w.heap.size, 11, none⟩ = some (.slice none 0 0) := cellB hg3 11 _ rfl
      have f11 : W3.frozen? ⟨w.heap.size, 11, none⟩ = false := by simp [World.frozen?, hg3]
      have z12 : W3.cell? ⟨w.heap.size, 12, none⟩ = some (.slice none 0 0) := cellB hg3 12 _ rfl
      have f12 : W3.frozen? ⟨w.heap.size, 12, none⟩ = false := by simp [World.frozen?, hg3]
      go_wp2
      obtain ⟨W9, hW9, hb9, hk9, hB9⟩ := box13 W3 w.heap.size 33 _ _ _ _ _ _ _ _ _ _ _ _ _ (.int .i64 0) (.int .i64 0) (.int .i64 0) (.int .i64 0) (.int .i64 0) (.int .i64 0) (.int .i64 0) (.int .i64 0) (.int .i64 0) (.int .i64 0) (.int .i64 0) (.slice none 0 0) (.slice none 0 0) hg3
      rw [hW9]
      have hF9 := hB9 _ _ (Nat.le_refl _) hF3
      clear hW9 hB9 z0 f0 z1 f1 z2 f2 z3 f3 z4 f4 z5 f5 z6 f6 z7 f7 z8 f8 z9 f9 z10 f10 z11 f11 z12 f12
      have z0 : W9.cell? ⟨w.heap.size, 0, none⟩ = some (.int .i64 0) := cellB hb9 0 _ rfl
      have z1 : W9.cell? ⟨w.heap.size, 1, none⟩ = some (.int .i64 0) := cellB hb9 1 _ rfl
      have z2 : W9.cell? ⟨w.heap.size, 2, none⟩ = some (.int .i64 0) := cellB hb9 2 _ rfl
      have z3 : W9.cell? ⟨w.heap.size, 3, none⟩ = some (.int .i64 0) := cellB hb9 3 _ rfl
      have z4 : W9.cell? ⟨w.heap.size, 4, none⟩ = some (.int .i64 0) := cellB hb9 4 _ rfl
      have z5 : W9.cell? ⟨w.heap.size, 5, none⟩ = some (.int .i64 0) := cellB hb9 5 _ rfl
      have z6 : W9.cell? ⟨w.heap.size, 6, none⟩ = some (.int .i64 0) := cellB hb9 6 _ rfl
      have z7 : W9.cell? ⟨w.heap.size, 7, none⟩ = some (.int .i64 0) := cellB hb9 7 _ rfl
      have z8 : W9.cell? ⟨w.heap.size, 8, none⟩ = some (.int .i64 0) := cellB hb9 8 _ rfl
      have z9 : W9.cell? ⟨w.heap.size, 9, none⟩ = some (.int .i64 0) := cellB hb9 9 _ rfl
      have z10 : W9.cell? ⟨w.heap.size, 10, none⟩ = some (.int .i64 0) := cellB hb9 10 _ rfl
      have z11 : W9.cell? ⟨w.heap.size, 11, none⟩ = some (.slice none 0 0) := cellB hb9 11 _ rfl
      have z12 : W9.cell? ⟨w.heap.size, 12, none⟩ = some (.slice none 0 0) := cellB hb9 12 _ rfl
      refine bodyPost_ret (v := .tuple #[rcV rc0 none 0 none 0, .int .i64 z]) (by simp [results, Tryz.results53, go_sem, rcV, rc0, z0, z1, z2, z3, z4, z5, z6, z7, z8, z9, z10, z11, z12]) rfl ?_
      exact ⟨hF9, Or.inl ⟨by rw [HP.out]; exact sz.out, by rw [HP.out]⟩⟩
    | false =>
      have sz : Shut (r.code = 0) := ⟨by simpa using bz⟩
      rw [sz.out]
      have q0 : W3.cell? ⟨W1.heap.size, 0, none⟩ = some (.int .i64 r.k) := cellB hq3 0 _ rfl
      have q1 : W3.cell? ⟨W1.heap.size, 1, none⟩ = some (.int .i64 r.p) := cellB hq3 1 _ rfl
      have q2 : W3.cell? ⟨W1.heap.size, 2, none⟩ = some (.int .i64 r.n) := cellB hq3 2 _ rfl
      have q3 : W3.cell? ⟨W1.heap.size, 3, none⟩ = some (.int .i64 r.y) := cellB hq3 3 _ rfl
      have q4 : W3.cell? ⟨W1.heap.size, 4, none⟩ = some (.int .i64 r.h.F) := cellB hq3 4 _ rfl
      have q5 : W3.cell? ⟨W1.heap.size, 5, none⟩ = some (.int .i64 r.h.Q) := cellB hq3 5 _ rfl
      have q6 : W3.cell? ⟨W1.heap.size, 6, none⟩ = some (.int .i64 r.h.T) := cellB hq3 6 _ rfl
      have q7 : W3.cell? ⟨W1.heap.size, 7, none⟩ = some (.int .i64 r.h.L) := cellB hq3 7 _ rfl
      have q8 : W3.cell? ⟨W1.heap.size, 8, none⟩ = some (.int .i64 r.h.B) := cellB hq3 8 _ rfl
      have q9 : W3.cell? ⟨W1.heap.size, 9, none⟩ = some (.int .i64 r.h.K) := cellB hq3 9 _ rfl
      have q10 : W3.cell? ⟨W1.heap.size, 10, none⟩ = some (.int .i64 r.id) := cellB hq3 10 _ rfl
      have q11 : W3.cell? ⟨W1.heap.size, 11, none⟩ = some (.slice da r.d.length dc) := cellB hq3 11 _ rfl
      have q12 : W3.cell? ⟨W1.heap.size, 12, none⟩ = some (.slice ca r.c.length cc) := cellB hq3 12 _ rfl
      have z0 : W3.cell? ⟨w.heap.size, 0, none⟩ = some (.int .i64 0) := cellB hg3 0 _ rfl
      have f0 : W3.frozen? ⟨w.heap.size, 0, none⟩ = false := by simp [World.frozen?, hg3]
      have z1 : W3.cell? ⟨w.heap.size, 1, none⟩ = some (.int .i64 0) := cellB hg3 1 _ rfl
      have f1 : W3.frozen? ⟨w.heap.size, 1, none⟩ = false := by simp [World.frozen?, hg3]
      have z2 : W3.cell? ⟨w.heap.size, 2, none⟩ = some (.int .i64 0) := cellB hg3 2 _ rfl
      have f2 : W3.frozen? ⟨w.heap.size, 2, none⟩ = false := by simp [World.frozen?, hg3]
      have z3 : W3.cell? ⟨w.heap.size, 3, none⟩ = some (.int .i64 0) := cellB hg3 3 _ rfl
      have f3 : W3.frozen? ⟨w.heap.size, 3, none⟩ = false := by simp [World.frozen?, hg3]
      have z4 : W3.cell? ⟨w.heap.size, 4, none⟩ = some (.int .i64 0) := cellB hg3 4 _ rfl
      have f4 : W3.frozen? ⟨w.heap.size, 4, none⟩ = false := by simp [World.frozen?, hg3]
      have z5 : W3.cell? ⟨w.heap.size, 5, none⟩ = some (.int .i64 0) := cellB hg3 5 _ rfl
      have f5 : W3.frozen? ⟨w.heap.size, 5, none⟩ = false := by simp [World.frozen?, hg3]
      have z6 : W3.cell? ⟨w.heap.size, 6, none⟩ = some (.int .i64 0) := cellB hg3 6 _ rfl
      have f6 : W3.frozen? ⟨w.heap.size, 6, none⟩ = false := by simp [World.frozen?, hg3]
      have z7 : W3.cell? ⟨w.heap.size, 7, none⟩ = some (.int .i64 0) := cellB hg3 7 _ rfl
      have f7 : W3.frozen? ⟨w.heap.size, 7, none⟩ = false := by simp [World.frozen?, hg3]
      have z8 : W3.cell? ⟨w.heap.size, 8, none⟩ = some (.int .i64 0) := cellB hg3 8 _ rfl
      have f8 : W3.frozen? ⟨w.heap.size, 8, none⟩ = false := by simp [World.frozen?, hg3]
      have z9 : W3.cell? ⟨w.heap.size, 9, none⟩ = some (.int .i64 0) := cellB hg3 9 _ rfl
      have f9 : W3.frozen? ⟨w.heap.size, 9, none⟩ = false := by simp [World.frozen?, hg3]
      have z10 : W3.cell? ⟨w.heap.size, 10, none⟩ = some (.int .i64 0) := cellB hg3 10 _ rfl
      have f10 : W3.frozen? ⟨w.heap.size, 10, none⟩ = false := by simp [World.frozen?, hg3]
      have z11 : W3.cell? ⟨w.heap.size, 11, none⟩ = some (.slice none 0 0) := cellB hg3 11 _ rfl
      have f11 : W3.frozen? ⟨w.heap.size, 11, none⟩ = false := by simp [World.frozen?, hg3]
      have z12 : W3.cell? ⟨w.heap.size, 12, none⟩ = some (.slice none 0 0) := cellB hg3 12 _ rfl
      have f12 : W3.frozen? ⟨w.heap.size, 12, none⟩ = false := by simp [World.frozen?, hg3]
      go_wp2
      obtain ⟨W9, hW9, hb9, hk9, hB9⟩ := box13 W3 w.heap.size 33 _ _ _ _ _ _ _ _ _ _ _ _ _ (.int .i64 r.k) (.int .i64 r.p) (.int .i64 r.n) (.int .i64 r.y) (.int .i64 r.h.F) (.int .i64 r.h.Q) (.int .i64 r.h.T) (.int .i64 r.h.L) (.int .i64 r.h.B) (.int .i64 r.h.K) (.int .i64 r.id) (.slice da r.d.length dc) (.slice ca r.c.length cc) hg3
      rw [hW9]
      have hF9 := hB9 _ _ (Nat.le_refl _) hF3
      clear hW9 hB9 z0 f0 z1 f1 z2 f2 z3 f3 z4 f4 z5 f5 z6 f6 z7 f7 z8 f8 z9 f9 z10 f10 z11 f11 z12 f12
      have z0 : W9.cell? ⟨w.heap.size, 0, none⟩ = some (.int .i64 r.k) := cellB hb9 0 _ rfl
      have z1 : W9.cell? ⟨w.heap.size, 1, none⟩ = some (.int .i64 r.p) := cellB hb9 1 _ rfl
      have z2 : W9.cell? ⟨w.heap.size, 2, none⟩ = some (.int .i64 r.n) := cellB hb9 2 _ rfl
      have z3 : W9.cell? ⟨w.heap.size, 3, none⟩ = some (.int .i64 r.y) := cellB hb9 3 _ rfl
      have z4 : W9.cell? ⟨w.heap.size, 4, none⟩ = some (.int .i64 r.h.F) := cellB hb9 4 _ rfl
      have z5 : W9.cell? ⟨w.heap.size, 5, none⟩ = some (.int .i64 r.h.Q) := cellB hb9 5 _ rfl
      have z6 : W9.cell? ⟨w.heap.size, 6, none⟩ = some (.int .i64 r.h.T) := cellB hb9 6 _ rfl
      have z7 : W9.cell? ⟨w.heap.size, 7, none⟩ = some (.int .i64 r.h.L) := cellB hb9 7 _ rfl
      have z8 : W9.cell? ⟨w.heap.size, 8, none⟩ = some (.int .i64 r.h.B) := cellB hb9 8 _ rfl
      have z9 : W9.cell? ⟨w.heap.size, 9, none⟩ = some (.int .i64 r.h.K) := cellB hb9 9 _ rfl
      have z10 : W9.cell? ⟨w.heap.size, 10, none⟩ = some (.int .i64 r.id) := cellB hb9 10 _ rfl
      have z11 : W9.cell? ⟨w.heap.size, 11, none⟩ = some (.slice da r.d.length dc) := cellB hb9 11 _ rfl
      have z12 : W9.cell? ⟨w.heap.size, 12, none⟩ = some (.slice ca r.c.length cc) := cellB hb9 12 _ rfl
      refine bodyPost_ret (v := .tuple #[rcV r da dc ca cc, .int .i64 0]) (by simp [results, Tryz.results53, go_sem, rcV, rc0, z0, z1, z2, z3, z4, z5, z6, z7, z8, z9, z10, z11, z12]) rfl ?_
      exact ⟨hF9, Or.inr ⟨by rw [HP.out]; exact sz.out, r, da, dc, ca, cc, HRD.out, sz.out, rfl, liesFar hld hk9 (fun b o e => Nat.ne_of_gt (HFD.out b o e)), liesFar hlc hk9 (fun b o e => Nat.ne_of_gt (HFC.out b o e)), fun b o e => Nat.le_of_lt (HFD.out b o e), fun b o e => Nat.le_of_lt (HFC.out b o e)⟩⟩

theorem parseF_any (s : ByteArray) (w : World) (hL : LaidN w) :
    Calls Tryz.prog 53 #[.string s] w fun e w' => Below w.heap.size w w' ∧ ParseF w.heap.size s.data.toList e w' := by
  by_cases hs : s.size ≤ 60000
  · exact parse_fits s w hs hL
  · have hp : pCode s.data.toList = 2 := by rw [pCode, if_pos (by rw [sizeB]; omega)]
    refine (parse_long s w (by omega)).mono ?_
    rintro e w' ⟨hb, rfl⟩
    exact ⟨hb, Or.inl ⟨by rw [hp]; decide, by rw [hp]⟩⟩

theorem parse_any (s : ByteArray) (w : World) (hL : LaidN w) :
    Calls Tryz.prog 53 #[.string s] w fun e w' => Below w.heap.size w w' ∧ ParseR s.data.toList e w' :=
  (parseF_any s w hL).mono fun _ _ h => ⟨h.1, h.2.weak⟩

end Go.Proofs.YtekdigbdfeamkaaGreatDoor

/-
  Chapter 7, the reference: RecRead's closure, the library's ParseInt and FormatInt in the words of this proof, and RecRead where a text has not thirteen words.
-/
namespace Go.Proofs.YtekdigbdfeamkaaGreatDoor
open Go.RowKit
set_option linter.unusedVariables false
set_option linter.unusedSimpArgs false

theorem bad_any (z : Int) (w : World) : Calls Tryz.prog 56 #[.int .i64 z] w fun e w' => e = .returned (.tuple #[rcV rc0 none 0 none 0, .int .i64 z]) ∧ Below w.heap.size w w' := by
  go_enter Tryz.func56, Tryz.ntmps56
  go_wp2
  refine bodyPost_ret (v := .tuple #[rcV rc0 none 0 none 0, .int .i64 z]) (by simp [results, Tryz.results56, go_sem, rcV, rc0]) rfl ?_
  exact ⟨rfl, (Below.refl _ _).alloc (Nat.le_refl _) _⟩

theorem entersBad : ∀ args w, (callFunc 56 args).run Tryz.prog w = .ok (.enter 56 args) w := enters_of Tryz.func56 (by kernel_rfl) rfl

theorem format_any (n : Int) (w : World) (hn : I64 n) (hL : LaidN w) :
    Calls Tryz.prog 59 #[.int .i64 n, .int .i64 10] w fun e w' => e = .returned (.string ⟨(Lib.itoa n).toArray⟩) ∧ Below w.heap.size w w' := by
  refine (Tryz.strconv_FormatInt_10 n hn.1 hn.2 w hL.pow).mono ?_
  rintro e w' ⟨rfl, k, os, rfl⟩
  exact ⟨rfl, Lib.below_grow _ _ (Nat.le_refl _) k os⟩

theorem parseI_good (s : ByteArray) (w : World) (v : Int) (hs : s.size ≤ 60000) (h : Lib.atoiAll s.data.toList = .ok v) :
    Calls Tryz.prog 58 #[.string s, .int .i64 10, .int .i64 64] w fun e w' => e = .returned (.tuple #[.int .i64 v, .nilIface]) ∧ Below w.heap.size w w' := by
  refine (Tryz.strconv_ParseInt_10_at64_ok s (by omega) v (by rw [Lib.parseIntB_64]; exact h) w).mono ?_
  rintro e w' ⟨rfl, rfl | ⟨t, rfl⟩⟩
  · exact ⟨rfl, Below.refl _ _⟩
  · exact ⟨rfl, Joins.below_bytesWorld _ _ _ _ (Nat.le_refl _)⟩

theorem parseI_bad (s : ByteArray) (w : World) (hs : s.size ≤ 60000) (h : ∀ v, Lib.atoiAll s.data.toList ≠ .ok v) (hL : LaidN w) :
    Calls Tryz.prog 58 #[.string s, .int .i64 10, .int .i64 64] w fun e w' => ∃ v te pe, e = .returned (.tuple #[.int .i64 v, .iface te pe]) ∧ Below w.heap.size w w' := by
  cases ha : Lib.atoiAll s.data.toList with
  | ok v => exact absurd ha (h v)
  | «syntax» =>
    obtain ⟨tp, p, hv⟩ := hL.syn
    refine (Tryz.strconv_ParseInt_10_at64_syntax_var s (by omega) (by rw [Lib.parseIntB_64]; exact ha) tp p w hv).mono ?_
    rintro e w' ⟨N, rfl, _, _, hb⟩
    exact ⟨_, _, _, rfl, hb⟩
  | range =>
    obtain ⟨tp, p, hv⟩ := hL.rng
    refine (Tryz.strconv_ParseInt_10_at64_range_var s (by omega) (by rw [Lib.parseIntB_64]; exact ha) tp p w hv).mono ?_
    rintro e w' ⟨N, rfl, _, _, hb⟩
    exact ⟨_, _, _, rfl, hb⟩

set_option maxHeartbeats 1000000 in
set_option maxRecDepth 8000 in
theorem recRead_len (s : ByteArray) (w : World) (hs : s.size ≤ 60000) (hL : LaidN w) (hl : (wordsL s.data.toList).length ≠ 13) :
    Calls Tryz.prog 38 #[.string s] w fun e w' => Below w.heap.size w w' ∧ e = .returned (.tuple #[rcV rc0 none 0 none 0, .int .i64 1]) := by
  obtain ⟨W, hW⟩ : ∃ W, w.alloc (.cells #[.int .i64 0, .int .i64 0, .int .i64 0, .int .i64 0, .int .i64 0, .int .i64 0, .int .i64 0, .int .i64 0, .int .i64 0, .int .i64 0, .int .i64 0, .slice none 0 0, .slice none 0 0] 33) = W := ⟨_, rfl⟩
  have hBW : Below w.heap.size w W := by rw [← hW]; exact (Below.refl _ _).alloc (Nat.le_refl _) _
  have hbW : W.heap[w.heap.size]? = some (.cells #[.int .i64 0, .int .i64 0, .int .i64 0, .int .i64 0, .int .i64 0, .int .i64 0, .int .i64 0, .int .i64 0, .int .i64 0, .int .i64 0, .int .i64 0, .slice none 0 0, .slice none 0 0] 33 (0, 0)) := by rw [← hW, heap_alloc_eq, if_pos rfl]
  have hS := split_any s W hs (hL.below hBW)
  have eg := entersBad
  go_enter Tryz.func38, Tryz.ntmps38
  go_wp2_with fail
  refine hS.mono ?_
  rintro e W1 ⟨ws, rfl, hlw, hb1, hws⟩
  have hl2 : ws.length ≠ 13 := by rw [← hws, List.length_map] at hl; exact hl
  have bl : ((ws.length : Int) != 13) = true := by simp; omega
  have hg1 := blkB hbW hb1
  have hF1 := hBW.trans (hb1.mono hBW.size)
  clear hS hlw hws hl hl2 hb1 hbW
  go_wp2_with fail
  refine (bad_any 1 W1).mono ?_
  rintro e W2 ⟨rfl, hb2⟩
  have hg2 := blkB hg1 hb2
  have hF2 := hF1.trans (hb2.mono hF1.size)
  simp only [rcV, rc0, List.length_nil]
  have z0 : W2.cell? ⟨w.heap.size, 0, none⟩ = some (.int .i64 0) := cellB hg2 0 _ rfl
  have f0 : W2.frozen? ⟨w.heap.size, 0, none⟩ = false := by simp [World.frozen?, hg2]
  have z1 : W2.cell? ⟨w.heap.size, 1, none⟩ = some (.int .i64 0) := cellB hg2 1 _ rfl
  have f1 : W2.frozen? ⟨w.heap.size, 1, none⟩ = false := by simp [World.frozen?, hg2]
  have z2 : W2.cell? ⟨w.heap.size, 2, none⟩ = some (.int .i64 0) := cellB hg2 2 _ rfl
  have f2 : W2.frozen? ⟨w.heap.size, 2, none⟩ = false := by simp [World.frozen?, hg2]
  have z3 : W2.cell? ⟨w.heap.size, 3, none⟩ = some (.int .i64 0) := cellB hg2 3 _ rfl
  have f3 : W2.frozen? ⟨w.heap.size, 3, none⟩ = false := by simp [World.frozen?, hg2]
  have z4 : W2.cell? ⟨w.heap.size, 4, none⟩ = some (.int .i64 0) := cellB hg2 4 _ rfl
  have f4 : W2.frozen? ⟨w.heap.size, 4, none⟩ = false := by simp [World.frozen?, hg2]
  have z5 : W2.cell? ⟨w.heap.size, 5, none⟩ = some (.int .i64 0) := cellB hg2 5 _ rfl
  have f5 : W2.frozen? ⟨w.heap.size, 5, none⟩ = false := by simp [World.frozen?, hg2]
  have z6 : W2.cell? ⟨w.heap.size, 6, none⟩ = some (.int .i64 0) := cellB hg2 6 _ rfl
  have f6 : W2.frozen? ⟨w.heap.size, 6, none⟩ = false := by simp [World.frozen?, hg2]
  have z7 : W2.cell? ⟨w.heap.size, 7, none⟩ = some (.int .i64 0) := cellB hg2 7 _ rfl
  have f7 : W2.frozen? ⟨w.heap.size, 7, none⟩ = false := by simp [World.frozen?, hg2]
  have z8 : W2.cell? ⟨w.heap.size, 8, none⟩ = some (.int .i64 0) := cellB hg2 8 _ rfl
  have f8 : W2.frozen? ⟨w.heap.size, 8, none⟩ = false := by simp [World.frozen?, hg2]
  have z9 : W2.cell? ⟨w.heap.size, 9, none⟩ = some (.int .i64 0) := cellB hg2 9 _ rfl
  have f9 : W2.frozen? ⟨w.heap.size, 9, none⟩ = false := by simp [World.frozen?, hg2]
  have z10 : W2.cell? ⟨w.heap.size, 10, none⟩ = some (.int .i64 0) := cellB hg2 10 _ rfl
  have f10 : W2.frozen? ⟨w.heap.size, 10, none⟩ = false := by simp [World.frozen?, hg2]
  have z11 : W2.cell? ⟨w.heap.size, 11, none⟩ = some (.slice none 0 0) := cellB hg2 11 _ rfl
  have f11 : W2.frozen? ⟨w.heap.size, 11, none⟩ = false := by simp [World.frozen?, hg2]
  have z12 : W2.cell? ⟨w.heap.size, 12, none⟩ = some (.slice none 0 0) := cellB hg2 12 _ rfl
  have f12 : W2.frozen? ⟨w.heap.size, 12, none⟩ = false := by simp [World.frozen?, hg2]
  clear hb2 hg1 hF1
  go_wp2
  obtain ⟨W9, hW9, hb9, hk9, hB9⟩ := box13 W2 w.heap.size 33 _ _ _ _ _ _ _ _ _ _ _ _ _ (.int .i64 0) (.int .i64 0) (.int .i64 0) (.int .i64 0) (.int .i64 0) (.int .i64 0) (.int .i64 0) (.int .i64 0) (.int .i64 0) (.int .i64 0) (.int .i64 0) (.slice none 0 0) (.slice none 0 0) hg2
  rw [hW9]
  have hF9 := hB9 _ _ (Nat.le_refl _) hF2
  clear hW9 hB9 z0 f0 z1 f1 z2 f2 z3 f3 z4 f4 z5 f5 z6 f6 z7 f7 z8 f8 z9 f9 z10 f10 z11 f11 z12 f12
  have z0 : W9.cell? ⟨w.heap.size, 0, none⟩ = some (.int .i64 0) := cellB hb9 0 _ rfl
  have z1 : W9.cell? ⟨w.heap.size, 1, none⟩ = some (.int .i64 0) := cellB hb9 1 _ rfl
  have z2 : W9.cell? ⟨w.heap.size, 2, none⟩ = some (.int .i64 0) := cellB hb9 2 _ rfl
  have z3 : W9.cell? ⟨w.heap.size, 3, none⟩ = some (.int .i64 0) := cellB hb9 3 _ rfl
  have z4 : W9.cell? ⟨w.heap.size, 4, none⟩ = some (.int .i64 0) := cellB hb9 4 _ rfl
  have z5 : W9.cell? ⟨w.heap.size, 5, none⟩ = some (.int .i64 0) := cellB hb9 5 _ rfl
  have z6 : W9.cell? ⟨w.heap.size, 6, none⟩ = some (.int .i64 0) := cellB hb9 6 _ rfl
  have z7 : W9.cell? ⟨w.heap.size, 7, none⟩ = some (.int .i64 0) := cellB hb9 7 _ rfl
  have z8 : W9.cell? ⟨w.heap.size, 8, none⟩ = some (.int .i64 0) := cellB hb9 8 _ rfl
  have z9 : W9.cell? ⟨w.heap.size, 9, none⟩ = some (.int .i64 0) := cellB hb9 9 _ rfl
  have z10 : W9.cell? ⟨w.heap.size, 10, none⟩ = some (.int .i64 0) := cellB hb9 10 _ rfl
  have z11 : W9.cell? ⟨w.heap.size, 11, none⟩ = some (.slice none 0 0) := cellB hb9 11 _ rfl
  have z12 : W9.cell? ⟨w.heap.size, 12, none⟩ = some (.slice none 0 0) := cellB hb9 12 _ rfl
  refine bodyPost_ret (v := .tuple #[rcV rc0 none 0 none 0, .int .i64 1]) (by simp [results, Tryz.results38, go_sem, rcV, rc0, z0, z1, z2, z3, z4, z5, z6, z7, z8, z9, z10, z11, z12]) rfl ?_
  exact ⟨hF9, rfl⟩

end Go.Proofs.YtekdigbdfeamkaaGreatDoor

/-
  Chapter 7, the reference: the two lists of bytes that RecRead reads, as they grow in an array of their own.
-/
namespace Go.Proofs.YtekdigbdfeamkaaGreatDoor
open Go.RowKit
set_option linter.unusedVariables false
set_option linter.unusedSimpArgs false

theorem readL_bytes {s : List UInt8} {i : Nat} (hi : i < 2) (h : byW ((wordsL s).getD (11 + i) []) = none) : readL s = none := by
  unfold readL
  split
  · match i, hi with
    | 0, _ =>
      rw [show (wordsL s).getD 11 [] = (wordsL s).getD (11 + 0) [] from rfl, h]
      cases numsW ((wordsL s).take 11) <;> rfl
    | 1, _ =>
      rw [show (wordsL s).getD 12 [] = (wordsL s).getD (11 + 1) [] from rfl, h]
      cases numsW ((wordsL s).take 11) <;> cases byW ((wordsL s).getD 11 []) <;> rfl
  · rfl

theorem byW_even {x : List UInt8} (h : x.length % 2 = 0) : byW x = none := by
  unfold byW
  split
  · rename_i r
    refine unhex_odd _ ?_
    simp only [List.length_cons] at h
    omega
  · rfl

theorem byW_dash {c : UInt8} {r : List UInt8} (h : c ≠ 45) : byW (c :: r) = none := by
  unfold byW
  split
  · rename_i e; injection e with e1 e2; exact absurd e1 h
  · rfl

/-- the two lists of bytes, as far as they are read: they lie in an array of their own -/
def BArr (W2 wx : World) (ws : List ByteArray) (q : Nat) : Prop :=
  ∃ R : Array Value, wx.heap[W2.heap.size]? = some (.cells R 102 (0, 0)) ∧ R.size = 2 ∧ (∀ i, q ≤ i → i < 2 → R[i]? = some (.slice none 0 0)) ∧
    (∀ (i : Nat) (x : ByteArray), i < q → ws[11 + i]? = some x → ∃ (d : List UInt8) (p : Option Addr) (cp : Nat), byW x.data.toList = some d ∧ R[i]? = some (.slice p d.length cp) ∧ Lies wx p (bs d) ∧ (∀ b o, p = some ⟨b, o, none⟩ → W2.heap.size < b)) ∧ Below W2.heap.size W2 wx

/-- one of them, as far as its digits are read -/
def BIn (W2 wq wx : World) (R : Array Value) (q : Nat) (r : List UInt8) (j : Nat) : Prop :=
  ∃ (v : Value) (a : List UInt8), a.length = j ∧ wx.heap[W2.heap.size]? = some (.cells (R.setIfInBounds q v) 102 (0, 0)) ∧ wx.ownsRow wq.heap.size 5 1 v j (bs a) ∧ unhex r = (unhex (r.drop (2 * j))).map (a ++ ·) ∧ Below W2.heap.size W2 wx ∧ wq.heap.size ≤ wx.heap.size ∧ ∀ k, k < wq.heap.size → k ≠ W2.heap.size → wx.heap[k]? = wq.heap[k]?

theorem set_self {R : Array Value} {q : Nat} {v : Value} (h : R[q]? = some v) : R.setIfInBounds q v = R := by
  refine Array.ext_getElem? fun i => ?_
  rw [Array.getElem?_setIfInBounds]
  split
  · rename_i e
    subst e
    have := (Array.getElem?_eq_some_iff.1 h).1
    rw [if_pos this, h]
  · rfl

theorem BIn.start {W2 wq : World} {R : Array Value} {q : Nat} (r : List UInt8) (har : wq.heap[W2.heap.size]? = some (.cells R 102 (0, 0))) (hq : R[q]? = some (.slice none 0 0)) (hb : Below W2.heap.size W2 wq) : BIn W2 wq wq R q r 0 :=
  ⟨.slice none 0 0, [], rfl, by rw [set_self hq]; exact har, World.ownsRow_nil _ _ _ _, by rw [Nat.mul_zero, List.drop_zero]; cases unhex r <;> rfl, hb, Nat.le_refl _, fun _ _ _ => rfl⟩

theorem BIn.step {W2 wq wx w4 : World} {R : Array Value} {q j : Nat} {r a : List UInt8} {v v' : Value} {b : UInt8} (hgb : W2.heap.size < wq.heap.size) (ha : a.length = j) (har : wx.heap[W2.heap.size]? = some (.cells (R.setIfInBounds q v) 102 (0, 0))) (hbx : Below W2.heap.size W2 wx) (hsz : wq.heap.size ≤ wx.heap.size) (hk : ∀ k, k < wq.heap.size → k ≠ W2.heap.size → wx.heap[k]? = wq.heap[k]?) (h4 : Below wq.heap.size wx w4)
    (hown : w4.ownsRow wq.heap.size 5 1 v' (j + 1) (bs (a ++ [b]))) (hu : unhex r = (unhex (r.drop (2 * (j + 1)))).map ((a ++ [b]) ++ ·)) : BIn W2 wq (w4.setCell ⟨W2.heap.size, q, none⟩ v') R q r (j + 1) := by
  have h5 : w4.heap[W2.heap.size]? = some (.cells (R.setIfInBounds q v) 102 (0, 0)) := (h4.block _ hgb).trans har
  refine ⟨v', a ++ [b], by simp [ha], ?_, ownsRow_setCell_below hown (a := ⟨W2.heap.size, q, none⟩) hgb _, hu, (hbx.trans (h4.mono (Nat.le_of_lt hgb))).setCell (p := ⟨W2.heap.size, q, none⟩) (Nat.le_refl _) _, ?_, ?_⟩
  · rw [setCell_blk h5, Array.setIfInBounds_setIfInBounds]
  · have := h4.size
    have e : (w4.setCell ⟨W2.heap.size, q, none⟩ v').heap.size = w4.heap.size := by simp [World.setCell]
    omega
  · intro k h1 h2
    rw [setCell_far _ _ h2, h4.block k h1]
    exact hk k h1 h2

theorem liesKeep {w w' : World} {a : Option Addr} {xs : List Value} {g : Nat} (h : Lies w a xs) (hk : ∀ k, k < w.heap.size → k ≠ g → w'.heap[k]? = w.heap[k]?) (hne : ∀ b o, a = some ⟨b, o, none⟩ → b ≠ g) : Lies w' a xs := by
  intro k u hu
  obtain ⟨b, off, e, hc⟩ := h k u hu
  refine ⟨b, off, e, ?_⟩
  have := World.block_lt_of_cell? w _ hc
  rw [← hc]
  simp only [World.cell?, hk b this (hne b off e)]

/-- a list that is read to its end -/
theorem BIn.done {W2 wq wx : World} {R : Array Value} {q j : Nat} {ws : List ByteArray} {x : ByteArray} {r : List UInt8} (hgb : W2.heap.size < wq.heap.size) (hq : q < 2) (hR : R.size = 2) (hn : ∀ i, q ≤ i → i < 2 → R[i]? = some (.slice none 0 0))
    (hs : ∀ (i : Nat) (x : ByteArray), i < q → ws[11 + i]? = some x → ∃ (d : List UInt8) (p : Option Addr) (cp : Nat), byW x.data.toList = some d ∧ R[i]? = some (.slice p d.length cp) ∧ Lies wq p (bs d) ∧ (∀ b o, p = some ⟨b, o, none⟩ → W2.heap.size < b))
    (hx : ws[11 + q]? = some x) (hxr : x.data.toList = 45 :: r) (hl : r.length ≤ 2 * j) (h : BIn W2 wq wx R q r j) : BArr W2 wx ws (q + 1) := by
  obtain ⟨v, a, ha, har, hown, hu, hb, hsz, hk⟩ := h
  obtain ⟨p, cp, rfl, hlp, _⟩ := own_lies hown
  rw [List.drop_eq_nil_of_le hl] at hu
  have hby : byW x.data.toList = some a := by rw [hxr]; show unhex r = some a; rw [hu]; simp [unhex]
  refine ⟨R.setIfInBounds q (.slice p j cp), har, by simp [hR], ?_, ?_, hb⟩
  · intro i h1 h2
    rw [Array.getElem?_setIfInBounds, if_neg (by omega)]
    exact hn i (by omega) h2
  · intro i y h1 hy
    rcases Nat.lt_or_ge i q with h2 | h2
    · obtain ⟨d, p', cp', e1, e2, e3, e4⟩ := hs i y h2 hy
      refine ⟨d, p', cp', e1, ?_, liesKeep e3 hk (fun b o e => by have := e4 b o e; omega), e4⟩
      rw [Array.getElem?_setIfInBounds, if_neg (by omega)]
      exact e2
    · obtain rfl : i = q := by omega
      rw [hx] at hy
      obtain rfl := Option.some.inj hy
      refine ⟨a, p, cp, hby, ?_, hlp, fun b o e => ?_⟩
      · rw [Array.getElem?_setIfInBounds, if_pos rfl, if_pos (by omega), ha]
      · have := (hown.lt b (by rw [e]; rfl)).1
        omega

theorem digIndexQ (x : UInt8) (z : Int) (h : digI x = z) (w : World) : Calls Tryz.prog 60 #[.string { data := #[48, 49, 50, 51, 52, 53, 54, 55, 56, 57, 97, 98, 99, 100, 101, 102] }, .int .u8 (x.toNat : Int)] w fun e w' => e = .returned (.int .i64 z) ∧ w' = w := by
  refine (digIndex x w).mono ?_
  rintro e w' ⟨rfl, rfl⟩
  rw [h]
  exact ⟨rfl, rfl⟩

theorem arr2 {R : Array Value} (h : R.size = 2) {u v : Value} (h0 : R[0]? = some u) (h1 : R[1]? = some v) : R = #[u, v] := by
  refine Array.ext_getElem? fun i => ?_
  match i with
  | 0 => simpa using h0
  | 1 => simpa using h1
  | i + 2 => rw [Array.getElem?_eq_none (by omega), Array.getElem?_eq_none (by simp)]

end Go.Proofs.YtekdigbdfeamkaaGreatDoor
