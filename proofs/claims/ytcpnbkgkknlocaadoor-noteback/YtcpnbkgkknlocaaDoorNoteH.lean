/-
  Chapter 7: package note's Parse.
-/
import Derived.Test.YtcpnbkgkknlocaaDoorNoteG
namespace Go.Proofs.YtcpnbkgkknlocaaDoor
open Go.RowKit
set_option linter.unusedVariables false
set_option linter.unusedSimpArgs false

/-- what Parse says of a text -/
def pCode (s : List UInt8) : Int :=
  if 60000 < s.length then 2 else match readL s with
    | none => 1
    | some r => r.code

/-- what Parse leaves -/
def ParseR (s : List UInt8) (e : Ending) (w' : World) : Prop :=
  (pCode s ≠ 0 ∧ e = .returned (.tuple #[rcV rc0 none 0 none 0, .int .i64 (pCode s)])) ∨
  (pCode s = 0 ∧ ∃ (r : Rc) (da : Option Addr) (dc : Nat) (ca : Option Addr) (cc : Nat), readL s = some r ∧ r.code = 0 ∧ e = .returned (.tuple #[rcV r da dc ca cc, .int .i64 0]) ∧ Lies w' da (bs r.d) ∧ Lies w' ca (bs r.c))

theorem read_short {s : List UInt8} {r : Rc} (h : readL s = some r) : 2 * r.d.length + 1 ≤ s.length ∧ 2 * r.c.length + 1 ≤ s.length := by
  obtain ⟨h1, h2⟩ := text_read h
  have hw := words_text r
  rw [h1] at hw
  have h3 := wordsL_short s (hexW r.d) (by rw [hw]; simp [Rc.words])
  have h4 := wordsL_short s (hexW r.c) (by rw [hw]; simp [Rc.words])
  rw [hexW_len] at h3 h4
  exact ⟨h3, h4⟩

set_option maxHeartbeats 1000000 in
set_option maxRecDepth 8000 in
theorem parse_long (s : ByteArray) (w : World) (hs : 60000 < s.size) :
    Calls Tryd.prog 6 #[.string s] w fun e w' => Below w.heap.size w w' ∧ e = .returned (.tuple #[rcV rc0 none 0 none 0, .int .i64 2]) := by
  have hs' : (s.size : Int) > 60000 := by omega
  go_enter Tryd.func6, Tryd.ntmps6
  go_wp2
  refine bodyPost_ret (v := .tuple #[rcV rc0 none 0 none 0, .int .i64 2]) (by simp [results, Tryd.results6, go_sem, rcV, rc0]) rfl ?_
  exact ⟨(Below.refl _ _).alloc (Nat.le_refl _) _, rfl⟩

set_option maxHeartbeats 2000000 in
set_option maxRecDepth 8000 in
theorem parse_fits (s : ByteArray) (w : World) (hs : s.size ≤ 60000) (hL : LaidN w) :
    Calls Tryd.prog 6 #[.string s] w fun e w' => Below w.heap.size w w' ∧ ParseR s.data.toList e w' := by
  have hs' : ¬ (s.size : Int) > 60000 := by omega
  have hlen : ¬ 60000 < s.data.toList.length := by rw [sizeB]; omega
  obtain ⟨W, hW⟩ : ∃ W, w.alloc (.cells #[.int .i64 0, .int .i64 0, .int .i64 0, .int .i64 0, .int .i64 0, .int .i64 0, .int .i64 0, .int .i64 0, .int .i64 0, .int .i64 0, .int .i64 0, .slice none 0 0, .slice none 0 0] 31) = W := ⟨_, rfl⟩
  have hBW : Below w.heap.size w W := by rw [← hW]; exact (Below.refl _ _).alloc (Nat.le_refl _) _
  have hbW : W.heap[w.heap.size]? = some (.cells #[.int .i64 0, .int .i64 0, .int .i64 0, .int .i64 0, .int .i64 0, .int .i64 0, .int .i64 0, .int .i64 0, .int .i64 0, .int .i64 0, .int .i64 0, .slice none 0 0, .slice none 0 0] 31 (0, 0)) := by rw [← hW, heap_alloc_eq, if_pos rfl]
  have hR := read_any s W hs (hL.below hBW)
  go_enter Tryd.func6, Tryd.ntmps6
  go_wp2_with fail
  refine hR.mono ?_
  rintro e W1 ⟨hb1, hr⟩
  have hF1 := hBW.trans (hb1.mono hBW.size)
  have hg1 := blkB hbW hb1
  have hw1 : w.heap.size < W1.heap.size := (Array.getElem?_eq_some_iff.1 hg1).1
  have hws : W.heap.size = w.heap.size + 1 := by rw [← hW]; simp
  clear hR hW hL hBW hb1 hbW
  cases hrd : readL s.data.toList with
  | none =>
    rw [hrd] at hr
    obtain rfl := (show e = .returned (.tuple #[rcV rc0 none 0 none 0, .bool false]) from hr)
    have HP : Shut (pCode s.data.toList = 1) := ⟨by rw [pCode, if_neg hlen, hrd]⟩
    clear hr hrd hlen
    simp only [rcV, rc0, List.length_nil]
    go_upto_region 4 with fail
    generalize hW2 : W1.alloc (.cells #[.int .i64 0, .int .i64 0, .int .i64 0, .int .i64 0, .int .i64 0, .int .i64 0, .int .i64 0, .int .i64 0, .int .i64 0, .int .i64 0, .int .i64 0, .slice none 0 0, .slice none 0 0] 31) = W2
    have hb2 : Below W1.heap.size W1 W2 := by rw [← hW2]; exact (Below.refl _ _).alloc (Nat.le_refl _) _
    have hg2 := blkB hg1 hb2
    have hF2 := hF1.trans (hb2.mono hF1.size)
    clear hb2 hW2
    have z0 : W2.cell? ⟨w.heap.size, 0, none⟩ = some (.int .i64 0) := cellB hg2 0 _ rfl
    have f0 : W2.frozen? ⟨w.heap.size, 0, none⟩ = false := by simp [World.frozen?, hg2]
    have z1 : W2.cell? ⟨w.heap.size, 1, none⟩ = some (.int .i64 0) := cellB hg2 1 _ rfl
    have f1 : W2.frozen? ⟨w.heap.size, 1, none⟩ = false := by simp [World.frozen?, hg2]
    have z2 : W2.cell? ⟨w.heap.size, 2, none⟩ = some (.int .i64 0) := cellB hg2 2 _ rfl
    have f2 : W2.frozen? ⟨w.heap.size, 2, none⟩ = false := by simp [World.frozen?, hg2]
    have z3 : W2.cell? ⟨w.heap.size, 3, none⟩ = some (.int .i64 0) := cellB hg2 3 _ rfl
    have f3 : W2.frozen? ⟨w.heap.size, 3, none⟩ = false := by simp [World.frozen?, hg2]
    have z4 : W2.cell? ⟨w.heap.size, 4, none⟩ = some (.int .i64 0) := cellB hg2 4 _ rfl
    have f4 : W2.frozen? ⟨w.heap.size, 4, none⟩ = false := by simp [World.frozen?, hg2]
    have z5 : W2.cell? ⟨w.heap.size, 5, none⟩ = some (.int .i64 0) := cellB hg2 5 _ rfl
    have f5 : W2.frozen? ⟨w.heap.size, 5, none⟩ = false := by simp [World.frozen?, hg2]
    have z6 : W2.cell? ⟨w.heap.size, 6, none⟩ = some (.int .i64 0) := cellB hg2 6 _ rfl
    have f6 : W2.frozen? ⟨w.heap.size, 6, none⟩ = false := by simp [World.frozen?, hg2]
    have z7 : W2.cell? ⟨w.heap.size, 7, none⟩ = some (.int .i64 0) := cellB hg2 7 _ rfl
    have f7 : W2.frozen? ⟨w.heap.size, 7, none⟩ = false := by simp [World.frozen?, hg2]
    have z8 : W2.cell? ⟨w.heap.size, 8, none⟩ = some (.int .i64 0) := cellB hg2 8 _ rfl
    have f8 : W2.frozen? ⟨w.heap.size, 8, none⟩ = false := by simp [World.frozen?, hg2]
    have z9 : W2.cell? ⟨w.heap.size, 9, none⟩ = some (.int .i64 0) := cellB hg2 9 _ rfl
    have f9 : W2.frozen? ⟨w.heap.size, 9, none⟩ = false := by simp [World.frozen?, hg2]
    have z10 : W2.cell? ⟨w.heap.size, 10, none⟩ = some (.int .i64 0) := cellB hg2 10 _ rfl
    have f10 : W2.frozen? ⟨w.heap.size, 10, none⟩ = false := by simp [World.frozen?, hg2]
    have z11 : W2.cell? ⟨w.heap.size, 11, none⟩ = some (.slice none 0 0) := cellB hg2 11 _ rfl
    have f11 : W2.frozen? ⟨w.heap.size, 11, none⟩ = false := by simp [World.frozen?, hg2]
    have z12 : W2.cell? ⟨w.heap.size, 12, none⟩ = some (.slice none 0 0) := cellB hg2 12 _ rfl
    have f12 : W2.frozen? ⟨w.heap.size, 12, none⟩ = false := by simp [World.frozen?, hg2]
    go_wp2
    obtain ⟨W9, hW9, hb9, hk9, hB9⟩ := box13 W2 w.heap.size 31 _ _ _ _ _ _ _ _ _ _ _ _ _ (.int .i64 0) (.int .i64 0) (.int .i64 0) (.int .i64 0) (.int .i64 0) (.int .i64 0) (.int .i64 0) (.int .i64 0) (.int .i64 0) (.int .i64 0) (.int .i64 0) (.slice none 0 0) (.slice none 0 0) hg2
    rw [hW9]
    have hF9 := hB9 _ _ (Nat.le_refl _) hF2
    clear hW9 hB9 z0 f0 z1 f1 z2 f2 z3 f3 z4 f4 z5 f5 z6 f6 z7 f7 z8 f8 z9 f9 z10 f10 z11 f11 z12 f12
    have z0 : W9.cell? ⟨w.heap.size, 0, none⟩ = some (.int .i64 0) := cellB hb9 0 _ rfl
    have z1 : W9.cell? ⟨w.heap.size, 1, none⟩ = some (.int .i64 0) := cellB hb9 1 _ rfl
    have z2 : W9.cell? ⟨w.heap.size, 2, none⟩ = some (.int .i64 0) := cellB hb9 2 _ rfl
    have z3 : W9.cell? ⟨w.heap.size, 3, none⟩ = some (.int .i64 0) := cellB hb9 3 _ rfl
    have z4 : W9.cell? ⟨w.heap.size, 4, none⟩ = some (.int .i64 0) := cellB hb9 4 _ rfl
    have z5 : W9.cell? ⟨w.heap.size, 5, none⟩ = some (.int .i64 0) := cellB hb9 5 _ rfl
    have z6 : W9.cell? ⟨w.heap.size, 6, none⟩ = some (.int .i64 0) := cellB hb9 6 _ rfl
    have z7 : W9.cell? ⟨w.heap.size, 7, none⟩ = some (.int .i64 0) := cellB hb9 7 _ rfl
    have z8 : W9.cell? ⟨w.heap.size, 8, none⟩ = some (.int .i64 0) := cellB hb9 8 _ rfl
    have z9 : W9.cell? ⟨w.heap.size, 9, none⟩ = some (.int .i64 0) := cellB hb9 9 _ rfl
    have z10 : W9.cell? ⟨w.heap.size, 10, none⟩ = some (.int .i64 0) := cellB hb9 10 _ rfl
    have z11 : W9.cell? ⟨w.heap.size, 11, none⟩ = some (.slice none 0 0) := cellB hb9 11 _ rfl
    have z12 : W9.cell? ⟨w.heap.size, 12, none⟩ = some (.slice none 0 0) := cellB hb9 12 _ rfl
    refine bodyPost_ret (v := .tuple #[rcV rc0 none 0 none 0, .int .i64 1]) (by simp [results, Tryd.results6, go_sem, rcV, rc0, z0, z1, z2, z3, z4, z5, z6, z7, z8, z9, z10, z11, z12]) rfl ?_
    exact ⟨hF9, Or.inl ⟨by rw [HP.out]; decide, by rw [HP.out]⟩⟩
  | some r =>
    rw [hrd] at hr
    obtain ⟨da, dc, ca, cc, rfl, hld, hlc, hfd, hfc⟩ := hr
    have HFD : Shut (∀ b o, da = some ⟨b, o, none⟩ → b ≠ w.heap.size) := ⟨fun b o e => by have := hfd b o e; omega⟩
    have HFC : Shut (∀ b o, ca = some ⟨b, o, none⟩ → b ≠ w.heap.size) := ⟨fun b o e => by have := hfc b o e; omega⟩
    clear hfd hfc
    obtain ⟨_, hri⟩ := text_read hrd
    obtain ⟨sd, sc⟩ := read_short hrd
    rw [sizeB] at sd sc
    have HP : Shut (pCode s.data.toList = r.code) := ⟨by rw [pCode, if_neg hlen, hrd]⟩
    have HRD := Shut.mk hrd
    obtain ⟨W2, hW2⟩ : ∃ W2, W1.alloc (.cells #[.int .i64 r.k, .int .i64 r.p, .int .i64 r.n, .int .i64 r.y, .int .i64 r.h.F, .int .i64 r.h.Q, .int .i64 r.h.T, .int .i64 r.h.L, .int .i64 r.h.B, .int .i64 r.h.K, .int .i64 r.id, .slice da r.d.length dc, .slice ca r.c.length cc] 31) = W2 := ⟨_, rfl⟩
    have hb2 : Below W1.heap.size W1 W2 := by rw [← hW2]; exact (Below.refl _ _).alloc (Nat.le_refl _) _
    have hq2 : W2.heap[W1.heap.size]? = some (.cells #[.int .i64 r.k, .int .i64 r.p, .int .i64 r.n, .int .i64 r.y, .int .i64 r.h.F, .int .i64 r.h.Q, .int .i64 r.h.T, .int .i64 r.h.L, .int .i64 r.h.B, .int .i64 r.h.K, .int .i64 r.id, .slice da r.d.length dc, .slice ca r.c.length cc] 31 (0, 0)) := by rw [← hW2, heap_alloc_eq, if_pos rfl]
    have hg2 := blkB hg1 hb2
    have hF2 := hF1.trans (hb2.mono hF1.size)
    have hC := noteCheck_any r da dc ca cc W2 hri (by unfold maxLen; omega)
    replace hld := hld.below hb2 (Nat.le_refl _)
    replace hlc := hlc.below hb2 (Nat.le_refl _)
    simp only [rcV] at hC ⊢
    clear hb2 hrd hlen hri sd sc
    have q0 : W2.cell? ⟨W1.heap.size, 0, none⟩ = some (.int .i64 r.k) := cellB hq2 0 _ rfl
    have q1 : W2.cell? ⟨W1.heap.size, 1, none⟩ = some (.int .i64 r.p) := cellB hq2 1 _ rfl
    have q2 : W2.cell? ⟨W1.heap.size, 2, none⟩ = some (.int .i64 r.n) := cellB hq2 2 _ rfl
    have q3 : W2.cell? ⟨W1.heap.size, 3, none⟩ = some (.int .i64 r.y) := cellB hq2 3 _ rfl
    have q4 : W2.cell? ⟨W1.heap.size, 4, none⟩ = some (.int .i64 r.h.F) := cellB hq2 4 _ rfl
    have q5 : W2.cell? ⟨W1.heap.size, 5, none⟩ = some (.int .i64 r.h.Q) := cellB hq2 5 _ rfl
    have q6 : W2.cell? ⟨W1.heap.size, 6, none⟩ = some (.int .i64 r.h.T) := cellB hq2 6 _ rfl
    have q7 : W2.cell? ⟨W1.heap.size, 7, none⟩ = some (.int .i64 r.h.L) := cellB hq2 7 _ rfl
    have q8 : W2.cell? ⟨W1.heap.size, 8, none⟩ = some (.int .i64 r.h.B) := cellB hq2 8 _ rfl
    have q9 : W2.cell? ⟨W1.heap.size, 9, none⟩ = some (.int .i64 r.h.K) := cellB hq2 9 _ rfl
    have q10 : W2.cell? ⟨W1.heap.size, 10, none⟩ = some (.int .i64 r.id) := cellB hq2 10 _ rfl
    have q11 : W2.cell? ⟨W1.heap.size, 11, none⟩ = some (.slice da r.d.length dc) := cellB hq2 11 _ rfl
    have q12 : W2.cell? ⟨W1.heap.size, 12, none⟩ = some (.slice ca r.c.length cc) := cellB hq2 12 _ rfl
    go_wp2_with fail
    refine hC.mono ?_
    rintro e W3 ⟨rfl, hb3⟩
    have hg3 := blkB hg2 hb3
    have hq3 := blkB hq2 hb3
    have hF3 := hF2.trans (hb3.mono hF2.size)
    replace hld := hld.below hb3 (Nat.le_refl _)
    replace hlc := hlc.below hb3 (Nat.le_refl _)
    clear hC hb3 hg2 hq2 hF2 hW2 q0 q1 q2 q3 q4 q5 q6 q7 q8 q9 q10 q11 q12
    cases bz : (r.code != 0) with
    | true =>
      have sz : Shut (r.code ≠ 0) := ⟨by simpa using bz⟩
      generalize hz : r.code = z at bz sz HP ⊢
      have z0 : W3.cell? ⟨w.heap.size, 0, none⟩ = some (.int .i64 0) := cellB hg3 0 _ rfl
      have f0 : W3.frozen? ⟨w.heap.size, 0, none⟩ = false := by simp [World.frozen?, hg3]
      have z1 : W3.cell? ⟨w.heap.size, 1, none⟩ = some (.int .i64 0) := cellB hg3 1 _ rfl
      have f1 : W3.frozen? ⟨w.heap.size, 1, none⟩ = false := by simp [World.frozen?, hg3]
      have z2 : W3.cell? ⟨w.heap.size, 2, none⟩ = some (.int .i64 0) := cellB hg3 2 _ rfl
      have f2 : W3.frozen? ⟨w.heap.size, 2, none⟩ = false := by simp [World.frozen?, hg3]
      have z3 : W3.cell? ⟨w.heap.size, 3, none⟩ = some (.int .i64 0) := cellB hg3 3 _ rfl
      have f3 : W3.frozen? ⟨w.heap.size, 3, none⟩ = false := by simp [World.frozen?, hg3]
      have z4 : W3.cell? ⟨w.heap.size, 4, none⟩ = some (.int .i64 0) := cellB hg3 4 _ rfl
      have f4 : W3.frozen? ⟨w.heap.size, 4, none⟩ = false := by simp [World.frozen?, hg3]
      have z5 : W3.cell? ⟨w.heap.size, 5, none⟩ = some (.int .i64 0) := cellB hg3 5 _ rfl
      have f5 : W3.frozen? ⟨w.heap.size, 5, none⟩ = false := by simp [World.frozen?, hg3]
      have z6 : W3.cell? ⟨w.heap.size, 6, none⟩ = some (.int .i64 0) := cellB hg3 6 _ rfl
      have f6 : W3.frozen? ⟨w.heap.size, 6, none⟩ = false := by simp [World.frozen?, hg3]
      have z7 : W3.cell? ⟨w.heap.size, 7, none⟩ = some (.int .i64 0) := cellB hg3 7 _ rfl
      have f7 : W3.frozen? ⟨w.heap.size, 7, none⟩ = false := by simp [World.frozen?, hg3]
      have z8 : W3.cell? ⟨w.heap.size, 8, none⟩ = some (.int .i64 0) := cellB hg3 8 _ rfl
      have f8 : W3.frozen? ⟨w.heap.size, 8, none⟩ = false := by simp [World.frozen?, hg3]
      have z9 : W3.cell? ⟨w.heap.size, 9, none⟩ = some (.int .i64 0) := cellB hg3 9 _ rfl
      have f9 : W3.frozen? ⟨w.heap.size, 9, none⟩ = false := by simp [World.frozen?, hg3]
      have z10 : W3.cell? ⟨w.heap.size, 10, none⟩ = some (.int .i64 0) := cellB hg3 10 _ rfl
      have f10 : W3.frozen? ⟨w.heap.size, 10, none⟩ = false := by simp [World.frozen?, hg3]
      have z11 : W3.cell? ⟨w.heap.size, 11, none⟩ = some (.slice none 0 0) := cellB hg3 11 _ rfl
      have f11 : W3.frozen? ⟨w.heap.size, 11, none⟩ = false := by simp [World.frozen?, hg3]
      have z12 : W3.cell? ⟨w.heap.size, 12, none⟩ = some (.slice none 0 0) := cellB hg3 12 _ rfl
      have f12 : W3.frozen? ⟨w.heap.size, 12, none⟩ = false := by simp [World.frozen?, hg3]
      go_wp2
      obtain ⟨W9, hW9, hb9, hk9, hB9⟩ := box13 W3 w.heap.size 31 _ _ _ _ _ _ _ _ _ _ _ _ _ (.int .i64 0) (.int .i64 0) (.int .i64 0) (.int .i64 0) (.int .i64 0) (.int .i64 0) (.int .i64 0) (.int .i64 0) (.int .i64 0) (.int .i64 0) (.int .i64 0) (.slice none 0 0) (.slice none 0 0) hg3
      rw [hW9]
      have hF9 := hB9 _ _ (Nat.le_refl _) hF3
      clear hW9 hB9 z0 f0 z1 f1 z2 f2 z3 f3 z4 f4 z5 f5 z6 f6 z7 f7 z8 f8 z9 f9 z10 f10 z11 f11 z12 f12
      have z0 : W9.cell? ⟨w.heap.size, 0, none⟩ = some (.int .i64 0) := cellB hb9 0 _ rfl
      have z1 : W9.cell? ⟨w.heap.size, 1, none⟩ = some (.int .i64 0) := cellB hb9 1 _ rfl
      have z2 : W9.cell? ⟨w.heap.size, 2, none⟩ = some (.int .i64 0) := cellB hb9 2 _ rfl
      have z3 : W9.cell? ⟨w.heap.size, 3, none⟩ = some (.int .i64 0) := cellB hb9 3 _ rfl
      have z4 : W9.cell? ⟨w.heap.size, 4, none⟩ = some (.int .i64 0) := cellB hb9 4 _ rfl
      have z5 : W9.cell? ⟨w.heap.size, 5, none⟩ = some (.int .i64 0) := cellB hb9 5 _ rfl
      have z6 : W9.cell? ⟨w.heap.size, 6, none⟩ = some (.int .i64 0) := cellB hb9 6 _ rfl
      have z7 : W9.cell? ⟨w.heap.size, 7, none⟩ = some (.int .i64 0) := cellB hb9 7 _ rfl
      have z8 : W9.cell? ⟨w.heap.size, 8, none⟩ = some (.int .i64 0) := cellB hb9 8 _ rfl
      have z9 : W9.cell? ⟨w.heap.size, 9, none⟩ = some (.int .i64 0) := cellB hb9 9 _ rfl
      have z10 : W9.cell? ⟨w.heap.size, 10, none⟩ = some (.int .i64 0) := cellB hb9 10 _ rfl
      have z11 : W9.cell? ⟨w.heap.size, 11, none⟩ = some (.slice none 0 0) := cellB hb9 11 _ rfl
      have z12 : W9.cell? ⟨w.heap.size, 12, none⟩ = some (.slice none 0 0) := cellB hb9 12 _ rfl
      refine bodyPost_ret (v := .tuple #[rcV rc0 none 0 none 0, .int .i64 z]) (by simp [results, Tryd.results6, go_sem, rcV, rc0, z0, z1, z2, z3, z4, z5, z6, z7, z8, z9, z10, z11, z12]) rfl ?_
      exact ⟨hF9, Or.inl ⟨by rw [HP.out]; exact sz.out, by rw [HP.out]⟩⟩
    | false =>
      have sz : Shut (r.code = 0) := ⟨by simpa using bz⟩
      rw [sz.out]
      have q0 : W3.cell? ⟨W1.heap.size, 0, none⟩ = some (.int .i64 r.k) := cellB hq3 0 _ rfl
      have q1 : W3.cell? ⟨W1.heap.size, 1, none⟩ = some (.int .i64 r.p) := cellB hq3 1 _ rfl
      have q2 : W3.cell? ⟨W1.heap.size, 2, none⟩ = some (.int .i64 r.n) := cellB hq3 2 _ rfl
      have q3 : W3.cell? ⟨W1.heap.size, 3, none⟩ = some (.int .i64 r.y) := cellB hq3 3 _ rfl
      have q4 : W3.cell? ⟨W1.heap.size, 4, none⟩ = some (.int .i64 r.h.F) := cellB hq3 4 _ rfl
      have q5 : W3.cell? ⟨W1.heap.size, 5, none⟩ = some (.int .i64 r.h.Q) := cellB hq3 5 _ rfl
      have q6 : W3.cell? ⟨W1.heap.size, 6, none⟩ = some (.int .i64 r.h.T) := cellB hq3 6 _ rfl
      have q7 : W3.cell? ⟨W1.heap.size, 7, none⟩ = some (.int .i64 r.h.L) := cellB hq3 7 _ rfl
      have q8 : W3.cell? ⟨W1.heap.size, 8, none⟩ = some (.int .i64 r.h.B) := cellB hq3 8 _ rfl
      have q9 : W3.cell? ⟨W1.heap.size, 9, none⟩ = some (.int .i64 r.h.K) := cellB hq3 9 _ rfl
      have q10 : W3.cell? ⟨W1.heap.size, 10, none⟩ = some (.int .i64 r.id) := cellB hq3 10 _ rfl
      have q11 : W3.cell? ⟨W1.heap.size, 11, none⟩ = some (.slice da r.d.length dc) := cellB hq3 11 _ rfl
      have q12 : W3.cell? ⟨W1.heap.size, 12, none⟩ = some (.slice ca r.c.length cc) := cellB hq3 12 _ rfl
      have z0 : W3.cell? ⟨w.heap.size, 0, none⟩ = some (.int .i64 0) := cellB hg3 0 _ rfl
      have f0 : W3.frozen? ⟨w.heap.size, 0, none⟩ = false := by simp [World.frozen?, hg3]
      have z1 : W3.cell? ⟨w.heap.size, 1, none⟩ = some (.int .i64 0) := cellB hg3 1 _ rfl
      have f1 : W3.frozen? ⟨w.heap.size, 1, none⟩ = false := by simp [World.frozen?, hg3]
      have z2 : W3.cell? ⟨w.heap.size, 2, none⟩ = some (.int .i64 0) := cellB hg3 2 _ rfl
      have f2 : W3.frozen? ⟨w.heap.size, 2, none⟩ = false := by simp [World.frozen?, hg3]
      have z3 : W3.cell? ⟨w.heap.size, 3, none⟩ = some (.int .i64 0) := cellB hg3 3 _ rfl
      have f3 : W3.frozen? ⟨w.heap.size, 3, none⟩ = false := by simp [World.frozen?, hg3]
      have z4 : W3.cell? ⟨w.heap.size, 4, none⟩ = some (.int .i64 0) := cellB hg3 4 _ rfl
      have f4 : W3.frozen? ⟨w.heap.size, 4, none⟩ = false := by simp [World.frozen?, hg3]
      have z5 : W3.cell? ⟨w.heap.size, 5, none⟩ = some (.int .i64 0) := cellB hg3 5 _ rfl
      have f5 : W3.frozen? ⟨w.heap.size, 5, none⟩ = false := by simp [World.frozen?, hg3]
      have z6 : W3.cell? ⟨w.heap.size, 6, none⟩ = some (.int .i64 0) := cellB hg3 6 _ rfl
      have f6 : W3.frozen? ⟨w.heap.size, 6, none⟩ = false := by simp [World.frozen?, hg3]
      have z7 : W3.cell? ⟨w.heap.size, 7, none⟩ = some (.int .i64 0) := cellB hg3 7 _ rfl
      have f7 : W3.frozen? ⟨w.heap.size, 7, none⟩ = false := by simp [World.frozen?, hg3]
      have z8 : W3.cell? ⟨w.heap.size, 8, none⟩ = some (.int .i64 0) := cellB hg3 8 _ rfl
      have f8 : W3.frozen? ⟨w.heap.size, 8, none⟩ = false := by simp [World.frozen?, hg3]
      have z9 : W3.cell? ⟨w.heap.size, 9, none⟩ = some (.int .i64 0) := cellB hg3 9 _ rfl
      have f9 : W3.frozen? ⟨w.heap.size, 9, none⟩ = false := by simp [World.frozen?, hg3]
      have z10 : W3.cell? ⟨w.heap.size, 10, none⟩ = some (.int .i64 0) := cellB hg3 10 _ rfl
      have f10 : W3.frozen? ⟨w.heap.size, 10, none⟩ = false := by simp [World.frozen?, hg3]
      have z11 : W3.cell? ⟨w.heap.size, 11, none⟩ = some (.slice none 0 0) := cellB hg3 11 _ rfl
      have f11 : W3.frozen? ⟨w.heap.size, 11, none⟩ = false := by simp [World.frozen?, hg3]
      have z12 : W3.cell? ⟨w.heap.size, 12, none⟩ = some (.slice none 0 0) := cellB hg3 12 _ rfl
      have f12 : W3.frozen? ⟨w.heap.size, 12, none⟩ = false := by simp [World.frozen?, hg3]
      go_wp2
      obtain ⟨W9, hW9, hb9, hk9, hB9⟩ := box13 W3 w.heap.size 31 _ _ _ _ _ _ _ _ _ _ _ _ _ (.int .i64 r.k) (.int .i64 r.p) (.int .i64 r.n) (.int .i64 r.y) (.int .i64 r.h.F) (.int .i64 r.h.Q) (.int .i64 r.h.T) (.int .i64 r.h.L) (.int .i64 r.h.B) (.int .i64 r.h.K) (.int .i64 r.id) (.slice da r.d.length dc) (.slice ca r.c.length cc) hg3
      rw [hW9]
      have hF9 := hB9 _ _ (Nat.le_refl _) hF3
      clear hW9 hB9 z0 f0 z1 f1 z2 f2 z3 f3 z4 f4 z5 f5 z6 f6 z7 f7 z8 f8 z9 f9 z10 f10 z11 f11 z12 f12
      have z0 : W9.cell? ⟨w.heap.size, 0, none⟩ = some (.int .i64 r.k) := cellB hb9 0 _ rfl
      have z1 : W9.cell? ⟨w.heap.size, 1, none⟩ = some (.int .i64 r.p) := cellB hb9 1 _ rfl
      have z2 : W9.cell? ⟨w.heap.size, 2, none⟩ = some (.int .i64 r.n) := cellB hb9 2 _ rfl
      have z3 : W9.cell? ⟨w.heap.size, 3, none⟩ = some (.int .i64 r.y) := cellB hb9 3 _ rfl
      have z4 : W9.cell? ⟨w.heap.size, 4, none⟩ = some (.int .i64 r.h.F) := cellB hb9 4 _ rfl
      have z5 : W9.cell? ⟨w.heap.size, 5, none⟩ = some (.int .i64 r.h.Q) := cellB hb9 5 _ rfl
      have z6 : W9.cell? ⟨w.heap.size, 6, none⟩ = some (.int .i64 r.h.T) := cellB hb9 6 _ rfl
      have z7 : W9.cell? ⟨w.heap.size, 7, none⟩ = some (.int .i64 r.h.L) := cellB hb9 7 _ rfl
      have z8 : W9.cell? ⟨w.heap.size, 8, none⟩ = some (.int .i64 r.h.B) := cellB hb9 8 _ rfl
      have z9 : W9.cell? ⟨w.heap.size, 9, none⟩ = some (.int .i64 r.h.K) := cellB hb9 9 _ rfl
      have z10 : W9.cell? ⟨w.heap.size, 10, none⟩ = some (.int .i64 r.id) := cellB hb9 10 _ rfl
      have z11 : W9.cell? ⟨w.heap.size, 11, none⟩ = some (.slice da r.d.length dc) := cellB hb9 11 _ rfl
      have z12 : W9.cell? ⟨w.heap.size, 12, none⟩ = some (.slice ca r.c.length cc) := cellB hb9 12 _ rfl
      refine bodyPost_ret (v := .tuple #[rcV r da dc ca cc, .int .i64 0]) (by simp [results, Tryd.results6, go_sem, rcV, rc0, z0, z1, z2, z3, z4, z5, z6, z7, z8, z9, z10, z11, z12]) rfl ?_
      exact ⟨hF9, Or.inr ⟨by rw [HP.out]; exact sz.out, r, da, dc, ca, cc, HRD.out, sz.out, rfl, liesFar hld hk9 HFD.out, liesFar hlc hk9 HFC.out⟩⟩

theorem parse_any (s : ByteArray) (w : World) (hL : LaidN w) :
    Calls Tryd.prog 6 #[.string s] w fun e w' => Below w.heap.size w w' ∧ ParseR s.data.toList e w' := by
  by_cases hs : s.size ≤ 60000
  · exact parse_fits s w hs hL
  · have hp : pCode s.data.toList = 2 := by rw [pCode, if_pos (by rw [sizeB]; omega)]
    refine (parse_long s w (by omega)).mono ?_
    rintro e w' ⟨hb, rfl⟩
    exact ⟨hb, Or.inl ⟨by rw [hp]; decide, by rw [hp]⟩⟩

end Go.Proofs.YtcpnbkgkknlocaaDoor
