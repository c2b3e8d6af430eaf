import Derived.Test.YtakkajjoeimkdaaGreatDoorPart33
import Derived.Test.YtakkajjoeimkdaaGreatDoorPart31
namespace Go.Proofs.YtakkajjoeimkdaaGreatDoor
open Go.RowKit
set_option linter.unusedVariables false
set_option linter.unusedSimpArgs false

def pCode (s : List UInt8) : Int :=
 if 60000 < s.length then 2 else match readL s with
  | none => 1
  | some r => r.code

def ParseR (s : List UInt8) (e : Ending) (w' : World) : Prop :=
 (pCode s ≠ 0 ∧ e = .returned (.tuple #[rcV rc0 none 0 none 0, .int .i64 (pCode s)])) ∨
 (pCode s = 0 ∧ ∃ (r : Rc) (da : Option Addr) (dc : Nat) (ca : Option Addr) (cc : Nat), readL s = some r ∧ r.code = 0 ∧ e = .returned (.tuple #[rcV r da dc ca cc, .int .i64 0]) ∧ Lies w' da (bs r.d) ∧ Lies w' ca (bs r.c))

def ParseF (B : Nat) (s : List UInt8) (e : Ending) (w' : World) : Prop :=
 (pCode s ≠ 0 ∧ e = .returned (.tuple #[rcV rc0 none 0 none 0, .int .i64 (pCode s)])) ∨
 (pCode s = 0 ∧ ∃ (r : Rc) (da : Option Addr) (dc : Nat) (ca : Option Addr) (cc : Nat), readL s = some r ∧ r.code = 0 ∧ e = .returned (.tuple #[rcV r da dc ca cc, .int .i64 0]) ∧ Lies w' da (bs r.d) ∧ Lies w' ca (bs r.c) ∧ (∀ b o, da = some ⟨b, o, none⟩ → B ≤ b) ∧ (∀ b o, ca = some ⟨b, o, none⟩ → B ≤ b))

theorem ParseF.weak {B : Nat} {s : List UInt8} {e : Ending} {w' : World} (h : ParseF B s e w') : ParseR s e w' := by
 rcases h with h | ⟨h1, r, da, dc, ca, cc, h2, h3, h4, h5, h6, _⟩
 ·exact Or.inl h
 ·exact Or.inr ⟨h1, r, da, dc, ca, cc, h2, h3, h4, h5, h6⟩

theorem read_short {s : List UInt8} {r : Rc} (h : readL s = some r) : 2 * r.d.length + 1 ≤ s.length ∧ 2 * r.c.length + 1 ≤ s.length := by
 obtain ⟨h1, h2⟩ := text_read h
 have hw := words_text r
 rw [h1] at hw
 have h3 := wordsL_short s (hexW r.d) (by rw [hw]; simp [Rc.words])
 have h4 := wordsL_short s (hexW r.c) (by rw [hw]; simp [Rc.words])
 rw [hexW_len] at h3 h4
 exact ⟨h3, h4⟩

set_option maxHeartbeats 1000000 in
set_option maxRecDepth 8000 in
theorem parse_long (s : ByteArray) (w : World) (hs : 60000 < s.size) :
  Calls Tryz.prog 119 #[.string s] w fun e w' => Below w.heap.size w w' ∧ e = .returned (.tuple #[rcV rc0 none 0 none 0, .int .i64 2]) := by
 have hs' : (s.size : Int) > 60000 := by omega
 go_enter Tryz.func119, Tryz.ntmps119
 go_wp2
 refine bodyPost_ret (v := .tuple #[rcV rc0 none 0 none 0, .int .i64 2]) (by simp [results, Tryz.results119, go_sem, rcV, rc0]) rfl ?_
 exact ⟨(Below.refl _ _).alloc (Nat.le_refl _) _, rfl⟩

set_option maxHeartbeats 2000000 in
set_option maxRecDepth 8000 in
theorem parse_fits (s : ByteArray) (w : World) (hs : s.size ≤ 60000) (hL : LaidN w) :
  Calls Tryz.prog 119 #[.string s] w fun e w' => Below w.heap.size w w' ∧ ParseF w.heap.size s.data.toList e w' := by
 have hs' : ¬ (s.size : Int) > 60000 := by omega
 have hlen : ¬ 60000 < s.data.toList.length := by rw [sizeB]; omega
 obtain ⟨W, hW⟩ : ∃ W, w.alloc (.cells #[.int .i64 0, .int .i64 0, .int .i64 0, .int .i64 0, .int .i64 0, .int .i64 0, .int .i64 0, .int .i64 0, .int .i64 0, .int .i64 0, .int .i64 0, .slice none 0 0, .slice none 0 0] 40) = W := ⟨_, rfl⟩
 have hBW : Below w.heap.size w W := by rw [← hW]; exact (Below.refl _ _).alloc (Nat.le_refl _) _
 have hbW : W.heap[w.heap.size]? = some (.cells #[.int .i64 0, .int .i64 0, .int .i64 0, .int .i64 0, .int .i64 0, .int .i64 0, .int .i64 0, .int .i64 0, .int .i64 0, .int .i64 0, .int .i64 0, .slice none 0 0, .slice none 0 0] 40 (0, 0)) := by rw [← hW, heap_alloc_eq, if_pos rfl]
 have hR := read_any s W hs (hL.below hBW)
 go_enter Tryz.func119, Tryz.ntmps119
 go_wp2_with fail
 refine hR.mono ?_
 rintro e W1 ⟨hb1, hr⟩
 have hF1 := hBW.trans (hb1.mono hBW.size)
 have hg1 := blkB hbW hb1
 have hw1 : w.heap.size < W1.heap.size := (Array.getElem?_eq_some_iff.1 hg1).1
 have hws : W.heap.size = w.heap.size + 1 := by rw [← hW]; simp
 clear hR hW hL hBW hb1 hbW
 cases hrd : readL s.data.toList with
 | none =>
  rw [hrd] at hr
  obtain rfl := (show e = .returned (.tuple #[rcV rc0 none 0 none 0, .bool false]) from hr)
  have HP : Shut (pCode s.data.toList = 1) := ⟨by rw [pCode, if_neg hlen, hrd]⟩
  clear hr hrd hlen
  simp only [rcV, rc0, List.length_nil]
  go_upto_region 4 with fail
  generalize hW2 : W1.alloc (.cells #[.int .i64 0, .int .i64 0, .int .i64 0, .int .i64 0, .int .i64 0, .int .i64 0, .int .i64 0, .int .i64 0, .int .i64 0, .int .i64 0, .int .i64 0, .slice none 0 0, .slice none 0 0] 40) = W2
  have hb2 : Below W1.heap.size W1 W2 := by rw [← hW2]; exact (Below.refl _ _).alloc (Nat.le_refl _) _
  have hg2 := blkB hg1 hb2
  have hF2 := hF1.trans (hb2.mono hF1.size)
  clear hb2 hW2
  have z0 : W2.cell? ⟨w.heap.size, 0, none⟩ = some (.int .i64 0) := cellB hg2 0 _ rfl
  have f0 : W2.frozen? ⟨w.heap.size, 0, none⟩ = false := by simp [World.frozen?, hg2]
  have z1 : W2.cell? ⟨w.heap.size, 1, none⟩ = some (.int .i64 0) := cellB hg2 1 _ rfl
  have f1 : W2.frozen? ⟨w.heap.size, 1, none⟩ = false := by simp [World.frozen?, hg2]
  have z2 : W2.cell? ⟨w.heap.size, 2, none⟩ = some (.int .i64 0) := cellB hg2 2 _ rfl
  have f2 : W2.frozen? ⟨w.heap.size, 2, none⟩ = false := by simp [World.frozen?, hg2]
  have z3 : W2.cell? ⟨w.heap.size, 3, none⟩ = some (.int .i64 0) := cellB hg2 3 _ rfl
  have f3 : W2.frozen? ⟨w.heap.size, 3, none⟩ = false := by simp [World.frozen?, hg2]
  have z4 : W2.cell? ⟨w.heap.size, 4, none⟩ = some (.int .i64 0) := cellB hg2 4 _ rfl
  have f4 : W2.frozen? ⟨w.heap.size, 4, none⟩ = false := by simp [World.frozen?, hg2]
  have z5 : W2.cell? ⟨w.heap.size, 5, none⟩ = some (.int .i64 0) := cellB hg2 5 _ rfl
  have f5 : W2.frozen? ⟨w.heap.size, 5, none⟩ = false := by simp [World.frozen?, hg2]
  have z6 : W2.cell? ⟨w.heap.size, 6, none⟩ = some (.int .i64 0) := cellB hg2 6 _ rfl
  have f6 : W2.frozen? ⟨w.heap.size, 6, none⟩ = false := by simp [World.frozen?, hg2]
  have z7 : W2.cell? ⟨w.heap.size, 7, none⟩ = some (.int .i64 0) := cellB hg2 7 _ rfl
  have f7 : W2.frozen? ⟨w.heap.size, 7, none⟩ = false := by simp [World.frozen?, hg2]
  have z8 : W2.cell? ⟨w.heap.size, 8, none⟩ = some (.int .i64 0) := cellB hg2 8 _ rfl
  have f8 : W2.frozen? ⟨w.heap.size, 8, none⟩ = false := by simp [World.frozen?, hg2]
  have z9 : W2.cell? ⟨w.heap.size, 9, none⟩ = some (.int .i64 0) := cellB hg2 9 _ rfl
  have f9 : W2.frozen? ⟨w.heap.size, 9, none⟩ = false := by simp [World.frozen?, hg2]
  have z10 : W2.cell? ⟨w.heap.size, 10, none⟩ = some (.int .i64 0) := cellB hg2 10 _ rfl
  have f10 : W2.frozen? ⟨w.heap.size, 10, none⟩ = false := by simp [World.frozen?, hg2]
  have z11 : W2.cell? ⟨w.heap.size, 11, none⟩ = some (.slice none 0 0) := cellB hg2 11 _ rfl
  have f11 : W2.frozen? ⟨w.heap.size, 11, none⟩ = false := by simp [World.frozen?, hg2]
  have z12 : W2.cell? ⟨w.heap.size, 12, none⟩ = some (.slice none 0 0) := cellB hg2 12 _ rfl
  have f12 : W2.frozen? ⟨w.heap.size, 12, none⟩ = false := by simp [World.frozen?, hg2]
  go_wp2
  obtain ⟨W9, hW9, hb9, hk9, hB9⟩ := box13 W2 w.heap.size 40 _ _ _ _ _ _ _ _ _ _ _ _ _ (.int .i64 0) (.int .i64 0) (.int .i64 0) (.int .i64 0) (.int .i64 0) (.int .i64 0) (.int .i64 0) (.int .i64 0) (.int .i64 0) (.int .i64 0) (.int .i64 0) (.slice none 0 0) (.slice none 0 0) hg2
  rw [hW9]
  have hF9 := hB9 _ _ (Nat.le_refl _) hF2
  clear hW9 hB9 z0 f0 z1 f1 z2 f2 z3 f3 z4 f4 z5 f5 z6 f6 z7 f7 z8 f8 z9 f9 z10 f10 z11 f11 z12 f12
  obtain ⟨z0, z1, z2, z3, z4, z5, z6, z7, z8, z9, z10, z11, z12⟩ := bx13 hb9
  refine bodyPost_ret (v := .tuple #[rcV rc0 none 0 none 0, .int .i64 1]) (by simp [results, Tryz.results119, go_sem, rcV, rc0, z0, z1, z2, z3, z4, z5, z6, z7, z8, z9, z10, z11, z12]) rfl ?_
  exact ⟨hF9, Or.inl ⟨by rw [HP.out]; decide, by rw [HP.out]⟩⟩
 | some r =>
  rw [hrd] at hr
  obtain ⟨da, dc, ca, cc, rfl, hld, hlc, hfd, hfc⟩ := hr
  have HFD : Shut (∀ b o, da = some ⟨b, o, none⟩ → w.heap.size < b) := ⟨fun b o e => by have := hfd b o e; omega⟩
  have HFC : Shut (∀ b o, ca = some ⟨b, o, none⟩ → w.heap.size < b) := ⟨fun b o e => by have := hfc b o e; omega⟩
  clear hfd hfc
  obtain ⟨_, hri⟩ := text_read hrd
  obtain ⟨sd, sc⟩ := read_short hrd
  rw [sizeB] at sd sc
  have HP : Shut (pCode s.data.toList = r.code) := ⟨by rw [pCode, if_neg hlen, hrd]⟩
  have HRD := Shut.mk hrd
  obtain ⟨W2, hW2⟩ : ∃ W2, W1.alloc (.cells #[.int .i64 r.k, .int .i64 r.p, .int .i64 r.n, .int .i64 r.y, .int .i64 r.h.F, .int .i64 r.h.Q, .int .i64 r.h.T, .int .i64 r.h.L, .int .i64 r.h.B, .int .i64 r.h.K, .int .i64 r.id, .slice da r.d.length dc, .slice ca r.c.length cc] 40) = W2 := ⟨_, rfl⟩
  have hb2 : Below W1.heap.size W1 W2 := by rw [← hW2]; exact (Below.refl _ _).alloc (Nat.le_refl _) _
  have hq2 : W2.heap[W1.heap.size]? = some (.cells #[.int .i64 r.k, .int .i64 r.p, .int .i64 r.n, .int .i64 r.y, .int .i64 r.h.F, .int .i64 r.h.Q, .int .i64 r.h.T, .int .i64 r.h.L, .int .i64 r.h.B, .int .i64 r.h.K, .int .i64 r.id, .slice da r.d.length dc, .slice ca r.c.length cc] 40 (0, 0)) := by rw [← hW2, heap_alloc_eq, if_pos rfl]
  have hg2 := blkB hg1 hb2
  have hF2 := hF1.trans (hb2.mono hF1.size)
  have hC := noteCheck_any r da dc ca cc W2 hri (by unfold maxLen; omega)
  replace hld := hld.below hb2 (Nat.le_refl _)
  replace hlc := hlc.below hb2 (Nat.le_refl _)
  simp only [rcV] at hC ⊢
  clear hb2 hrd hlen hri sd sc
  obtain ⟨q0, q1, q2, q3, q4, q5, q6, q7, q8, q9, q10, q11, q12⟩ := bx13 hq2
  go_wp2_with fail
  refine hC.mono ?_
  rintro e W3 ⟨rfl, hb3⟩
  have hg3 := blkB hg2 hb3
  have hq3 := blkB hq2 hb3
  have hF3 := hF2.trans (hb3.mono hF2.size)
  replace hld := hld.below hb3 (Nat.le_refl _)
  replace hlc := hlc.below hb3 (Nat.le_refl _)
  clear hC hb3 hg2 hq2 hF2 hW2 q0 q1 q2 q3 q4 q5 q6 q7 q8 q9 q10 q11 q12
  cases bz : (r.code != 0) with
  | true =>
   have sz : Shut (r.code ≠ 0) := ⟨by simpa using bz⟩
   generalize hz : r.code = z at bz sz HP ⊢
   have z0 : W3.cell? ⟨w.heap.size, 0, none⟩ = some (.int .i64 0) := cellB hg3 0 _ rfl
   have f0 : W3.frozen? ⟨w.heap.size, 0, none⟩ = false := by simp [World.frozen?, hg3]
   have z1 : W3.cell? ⟨w.heap.size, 1, none⟩ = some (.int .i64 0) := cellB hg3 1 _ rfl
   have f1 : W3.frozen? ⟨w.heap.size, 1, none⟩ = false := by simp [World.frozen?, hg3]
   have z2 : W3.cell? ⟨w.heap.size, 2, none⟩ = some (.int .i64 0) := cellB hg3 2 _ rfl
   have f2 : W3.frozen? ⟨w.heap.size, 2, none⟩ = false := by simp [World.frozen?, hg3]
   have z3 : W3.cell? ⟨w.heap.size, 3, none⟩ = some (.int .i64 0) := cellB hg3 3 _ rfl
   have f3 : W3.frozen? ⟨w.heap.size, 3, none⟩ = false := by simp [World.frozen?, hg3]
   have z4 : W3.cell? ⟨w.heap.size, 4, none⟩ = some (.int .i64 0) := cellB hg3 4 _ rfl
   have f4 : W3.frozen? ⟨w.heap.size, 4, none⟩ = false := by simp [World.frozen?, hg3]
   have z5 : W3.cell? ⟨w.heap.size, 5, none⟩ = some (.int .i64 0) := cellB hg3 5 _ rfl
   have f5 : W3.frozen? ⟨w.heap.size, 5, none⟩ = false := by simp [World.frozen?, hg3]
   have z6 : W3.cell? ⟨w.heap.size, 6, none⟩ = some (.int .i64 0) := cellB hg3 6 _ rfl
   have f6 : W3.frozen? ⟨w.heap.size, 6, none⟩ = false := by simp [World.frozen?, hg3]
   have z7 : W3.cell? ⟨w.heap.size, 7, none⟩ = some (.int .i64 0) := cellB hg3 7 _ rfl
   have f7 : W3.frozen? ⟨w.heap.size, 7, none⟩ = false := by simp [World.frozen?, hg3]
   have z8 : W3.cell? ⟨w.heap.size, 8, none⟩ = some (.int .i64 0) := cellB hg3 8 _ rfl
   have f8 : W3.frozen? ⟨w.heap.size, 8, none⟩ = false := by simp [World.frozen?, hg3]
   have z9 : W3.cell? ⟨w.heap.size, 9, none⟩ = some (.int .i64 0) := cellB hg3 9 _ rfl
   have f9 : W3.frozen? ⟨w.heap.size, 9, none⟩ = false := by simp [World.frozen?, hg3]
   have z10 : W3.cell? ⟨w.heap.size, 10, none⟩ = some (.int .i64 0) := cellB hg3 10 _ rfl
   have f10 : W3.frozen? ⟨w.heap.size, 10, none⟩ = false := by simp [World.frozen?, hg3]
   have z11 : W3.cell? ⟨w.heap.size, 11, none⟩ = some (.slice none 0 0) := cellB hg3 11 _ rfl
   have f11 : W3.frozen? ⟨w.heap.size, 11, none⟩ = false := by simp [World.frozen?, hg3]
   have z12 : W3.cell? ⟨w.heap.size, 12, none⟩ = some (.slice none 0 0) := cellB hg3 12 _ rfl
   have f12 : W3.frozen? ⟨w.heap.size, 12, none⟩ = false := by simp [World.frozen?, hg3]
   go_wp2
   obtain ⟨W9, hW9, hb9, hk9, hB9⟩ := box13 W3 w.heap.size 40 _ _ _ _ _ _ _ _ _ _ _ _ _ (.int .i64 0) (.int .i64 0) (.int .i64 0) (.int .i64 0) (.int .i64 0) (.int .i64 0) (.int .i64 0) (.int .i64 0) (.int .i64 0) (.int .i64 0) (.int .i64 0) (.slice none 0 0) (.slice none 0 0) hg3
   rw [hW9]
   have hF9 := hB9 _ _ (Nat.le_refl _) hF3
   clear hW9 hB9 z0 f0 z1 f1 z2 f2 z3 f3 z4 f4 z5 f5 z6 f6 z7 f7 z8 f8 z9 f9 z10 f10 z11 f11 z12 f12
   obtain ⟨z0, z1, z2, z3, z4, z5, z6, z7, z8, z9, z10, z11, z12⟩ := bx13 hb9
   refine bodyPost_ret (v := .tuple #[rcV rc0 none 0 none 0, .int .i64 z]) (by simp [results, Tryz.results119, go_sem, rcV, rc0, z0, z1, z2, z3, z4, z5, z6, z7, z8, z9, z10, z11, z12]) rfl ?_
   exact ⟨hF9, Or.inl ⟨by rw [HP.out]; exact sz.out, by rw [HP.out]⟩⟩
  | false =>
   have sz : Shut (r.code = 0) := ⟨by simpa using bz⟩
   rw [sz.out]
   obtain ⟨q0, q1, q2, q3, q4, q5, q6, q7, q8, q9, q10, q11, q12⟩ := bx13 hq3
   have z0 : W3.cell? ⟨w.heap.size, 0, none⟩ = some (.int .i64 0) := cellB hg3 0 _ rfl
   have f0 : W3.frozen? ⟨w.heap.size, 0, none⟩ = false := by simp [World.frozen?, hg3]
   have z1 : W3.cell? ⟨w.heap.size, 1, none⟩ = some (.int .i64 0) := cellB hg3 1 _ rfl
   have f1 : W3.frozen? ⟨w.heap.size, 1, none⟩ = false := by simp [World.frozen?, hg3]
   have z2 : W3.cell? ⟨w.heap.size, 2, none⟩ = some (.int .i64 0) := cellB hg3 2 _ rfl
   have f2 : W3.frozen? ⟨w.heap.size, 2, none⟩ = false := by simp [World.frozen?, hg3]
   have z3 : W3.cell? ⟨w.heap.size, 3, none⟩ = some (.int .i64 0) := cellB hg3 3 _ rfl
   have f3 : W3.frozen? ⟨w.heap.size, 3, none⟩ = false := by simp [World.frozen?, hg3]
   have z4 : W3.cell? ⟨w.heap.size, 4, none⟩ = some (.int .i64 0) := cellB hg3 4 _ rfl
   have f4 : W3.frozen? ⟨w.heap.size, 4, none⟩ = false := by simp [World.frozen?, hg3]
   have z5 : W3.cell? ⟨w.heap.size, 5, none⟩ = some (.int .i64 0) := cellB hg3 5 _ rfl
   have f5 : W3.frozen? ⟨w.heap.size, 5, none⟩ = false := by simp [World.frozen?, hg3]
   have z6 : W3.cell? ⟨w.heap.size, 6, none⟩ = some (.int .i64 0) := cellB hg3 6 _ rfl
   have f6 : W3.frozen? ⟨w.heap.size, 6, none⟩ = false := by simp [World.frozen?, hg3]
   have z7 : W3.cell? ⟨w.heap.size, 7, none⟩ = some (.int .i64 0) := cellB hg3 7 _ rfl
   have f7 : W3.frozen? ⟨w.heap.size, 7, none⟩ = false := by simp [World.frozen?, hg3]
   have z8 : W3.cell? ⟨w.heap.size, 8, none⟩ = some (.int .i64 0) := cellB hg3 8 _ rfl
   have f8 : W3.frozen? ⟨w.heap.size, 8, none⟩ = false := by simp [World.frozen?, hg3]
   have z9 : W3.cell? ⟨w.heap.size, 9, none⟩ = some (.int .i64 0) := cellB hg3 9 _ rfl
   have f9 : W3.frozen? ⟨w.heap.size, 9, none⟩ = false := by simp [World.frozen?, hg3]
   have z10 : W3.cell? ⟨w.heap.size, 10, none⟩ = some (.int .i64 0) := cellB hg3 10 _ rfl
   have f10 : W3.frozen? ⟨w.heap.size, 10, none⟩ = false := by simp [World.frozen?, hg3]
   have z11 : W3.cell? ⟨w.heap.size, 11, none⟩ = some (.slice none 0 0) := cellB hg3 11 _ rfl
   have f11 : W3.frozen? ⟨w.heap.size, 11, none⟩ = false := by simp [World.frozen?, hg3]
   have z12 : W3.cell? ⟨w.heap.size, 12, none⟩ = some (.slice none 0 0) := cellB hg3 12 _ rfl
   have f12 : W3.frozen? ⟨w.heap.size, 12, none⟩ = false := by simp [World.frozen?, hg3]
   go_wp2
   obtain ⟨W9, hW9, hb9, hk9, hB9⟩ := box13 W3 w.heap.size 40 _ _ _ _ _ _ _ _ _ _ _ _ _ (.int .i64 r.k) (.int .i64 r.p) (.int .i64 r.n) (.int .i64 r.y) (.int .i64 r.h.F) (.int .i64 r.h.Q) (.int .i64 r.h.T) (.int .i64 r.h.L) (.int .i64 r.h.B) (.int .i64 r.h.K) (.int .i64 r.id) (.slice da r.d.length dc) (.slice ca r.c.length cc) hg3
   rw [hW9]
   have hF9 := hB9 _ _ (Nat.le_refl _) hF3
   clear hW9 hB9 z0 f0 z1 f1 z2 f2 z3 f3 z4 f4 z5 f5 z6 f6 z7 f7 z8 f8 z9 f9 z10 f10 z11 f11 z12 f12
   obtain ⟨z0, z1, z2, z3, z4, z5, z6, z7, z8, z9, z10, z11, z12⟩ := bx13 hb9
   refine bodyPost_ret (v := .tuple #[rcV r da dc ca cc, .int .i64 0]) (by simp [results, Tryz.results119, go_sem, rcV, rc0, z0, z1, z2, z3, z4, z5, z6, z7, z8, z9, z10, z11, z12]) rfl ?_
   exact ⟨hF9, Or.inr ⟨by rw [HP.out]; exact sz.out, r, da, dc, ca, cc, HRD.out, sz.out, rfl, liesFar hld hk9 (fun b o e => Nat.ne_of_gt (HFD.out b o e)), liesFar hlc hk9 (fun b o e => Nat.ne_of_gt (HFC.out b o e)), fun b o e => Nat.le_of_lt (HFD.out b o e), fun b o e => Nat.le_of_lt (HFC.out b o e)⟩⟩

theorem parseF_any (s : ByteArray) (w : World) (hL : LaidN w) :
  Calls Tryz.prog 119 #[.string s] w fun e w' => Below w.heap.size w w' ∧ ParseF w.heap.size s.data.toList e w' := by
 by_cases hs : s.size ≤ 60000
 ·exact parse_fits s w hs hL
 ·have hp : pCode s.data.toList = 2 := by rw [pCode, if_pos (by rw [sizeB]; omega)]
  refine (parse_long s w (by omega)).mono ?_
  rintro e w' ⟨hb, rfl⟩
  exact ⟨hb, Or.inl ⟨by rw [hp]; decide, by rw [hp]⟩⟩

def cutLine : List UInt8 → Option (List UInt8 × List UInt8)
 | [] => none
 | c :: r => if c = 10 then some ([], r) else (cutLine r).map fun x => (c :: x.1, x.2)

theorem cutLine_hit : ∀ (a r : List UInt8), (10 : UInt8) ∉ a → cutLine (a ++ 10 :: r) = some (a, r)
 | [], r, _ => by simp [cutLine]
 | c :: a, r, h => by
  have h1 : ¬ c = 10 := fun e => h (by simp [e])
  rw [List.cons_append, cutLine, if_neg h1, cutLine_hit a r (fun e => h (List.mem_cons_of_mem _ e))]
  rfl

theorem cutLine_none : ∀ (s : List UInt8), (10 : UInt8) ∉ s → cutLine s = none
 | [], _ => rfl
 | c :: s, h => by
  have h1 : ¬ c = 10 := fun e => h (by simp [e])
  rw [cutLine, if_neg h1, cutLine_none s (fun e => h (List.mem_cons_of_mem _ e))]
  rfl

theorem line_cases : ∀ (s : List UInt8), (10 : UInt8) ∉ s ∨ ∃ a r, (10 : UInt8) ∉ a ∧ s = a ++ 10 :: r
 | [] => Or.inl (by simp)
 | c :: s => by
  by_cases h : c = 10
  ·subst h
   exact Or.inr ⟨[], s, by simp, rfl⟩
  ·rcases line_cases s with h1 | ⟨a, r, h1, h2⟩
   ·left
    intro e
    rcases List.mem_cons.1 e with e | e
    ·exact h e.symm
    ·exact h1 e
   ·right
    refine ⟨c :: a, r, ?_, by rw [h2]; rfl⟩
    intro e
    rcases List.mem_cons.1 e with e | e
    ·exact h e.symm
    ·exact h1 e

theorem cutLine_some {s a r : List UInt8} (h : cutLine s = some (a, r)) : s = a ++ 10 :: r ∧ (10 : UInt8) ∉ a := by
 rcases line_cases s with h1 | ⟨a', r', h1, h2⟩
 ·rw [cutLine_none s h1] at h; cases h
 ·rw [h2, cutLine_hit a' r' h1] at h
  injection h with h
  injection h with h3 h4
  subst h3 h4
  exact ⟨h2, h1⟩

def linesF : Nat → Nat → List UInt8 → List Rc × Nat × Int
 | 0, _, _ => ([], 0, 0)
 | f + 1, m, s =>
  match cutLine s with
  | none => ([], 0, if s = [] then 0 else 9)
  | some (a, r) =>
   if pCode a = 0 then
    if m = 0 then ([], 0, 2)
    else ((readL a).getD rc0 :: (linesF f (m - 1) r).1, a.length + 1 + (linesF f (m - 1) r).2.1, (linesF f (m - 1) r).2.2)
   else ([], 0, pCode a)

def linesL (m : Nat) (s : List UInt8) : List Rc × Nat × Int := linesF (s.length + 1) m s

theorem linesF_more : ∀ (f g m : Nat) (s : List UInt8), s.length < f → s.length < g → linesF f m s = linesF g m s
 | 0, _, _, _, h, _ => absurd h (by omega)
 | _ + 1, 0, _, _, _, h => absurd h (by omega)
 | f + 1, g + 1, m, s, h1, h2 => by
  rw [linesF, linesF]
  cases hc : cutLine s with
  | none => rfl
  | some x =>
   obtain ⟨a, r⟩ := x
   have hs := (cutLine_some hc).1
   have hl : s.length = a.length + (r.length + 1) := by rw [hs, List.length_append, List.length_cons]
   simp only
   rw [linesF_more f g (m - 1) r (by omega) (by omega)]

theorem linesL_none {m : Nat} {s : List UInt8} (h : (10 : UInt8) ∉ s) : linesL m s = ([], 0, if s = [] then 0 else 9) := by
 rw [linesL, linesF, cutLine_none s h]

theorem linesL_nil (m : Nat) : linesL m [] = ([], 0, 0) := by
 rw [linesL_none (by simp), if_pos rfl]

theorem linesL_bad {m : Nat} {a : List UInt8} (r : List UInt8) (h : (10 : UInt8) ∉ a) (hp : pCode a ≠ 0) : linesL m (a ++ 10 :: r) = ([], 0, pCode a) := by
 rw [linesL, linesF, cutLine_hit a r h]
 simp only
 rw [if_neg hp]

theorem linesL_many {a : List UInt8} (r : List UInt8) (h : (10 : UInt8) ∉ a) (hp : pCode a = 0) : linesL 0 (a ++ 10 :: r) = ([], 0, 2) := by
 rw [linesL, linesF, cutLine_hit a r h]
 simp only
 rw [if_pos hp, if_pos trivial]

theorem linesL_next {m : Nat} {a : List UInt8} (r : List UInt8) {x : Rc} (h : (10 : UInt8) ∉ a) (hp : pCode a = 0) (hx : readL a = some x) :
  linesL (m + 1) (a ++ 10 :: r) = (x :: (linesL m r).1, a.length + 1 + (linesL m r).2.1, (linesL m r).2.2) := by
 rw [linesL, linesF, cutLine_hit a r h]
 simp only
 rw [if_pos hp, if_neg (by omega), hx]
 have : linesF (a ++ 10 :: r).length (m + 1 - 1) r = linesL m r := linesF_more _ _ _ _ (by simp; omega) (by omega)
 rw [this]
 rfl

def LogAt (m : Nat) (s : List UInt8) (L : List Rc) (n : Nat) : Prop :=
 n ≤ s.length ∧ L.length ≤ m ∧ linesL m s = (L ++ (linesL (m - L.length) (s.drop n)).1, n + (linesL (m - L.length) (s.drop n)).2.1, (linesL (m - L.length) (s.drop n)).2.2)

theorem LogAt.start (m : Nat) (s : List UInt8) : LogAt m s [] 0 := ⟨Nat.zero_le _, Nat.zero_le _, by simp⟩

theorem LogAt.stop {m : Nat} {s : List UInt8} {L : List Rc} {n : Nat} (h : LogAt m s L n) {e : Int} (he : linesL (m - L.length) (s.drop n) = ([], 0, e)) : linesL m s = (L, n, e) := by
 rw [h.2.2, he]
 simp

theorem LogAt.next {m : Nat} {s : List UInt8} {L : List Rc} {n : Nat} (h : LogAt m s L n) {a r : List UInt8} {x : Rc} (hs : s.drop n = a ++ 10 :: r) (ha : (10 : UInt8) ∉ a) (hp : pCode a = 0) (hx : readL a = some x) (hm : L.length < m) : LogAt m s (L ++ [x]) (n + (a.length + 1)) := by
 obtain ⟨h1, h2, h3⟩ := h
 have hl : s.length - n = a.length + (r.length + 1) := by rw [← List.length_drop, hs, List.length_append, List.length_cons]
 have hd : s.drop (n + (a.length + 1)) = r := by
  rw [← List.drop_drop, hs]
  have : a ++ 10 :: r = (a ++ [10]) ++ r := by simp
  rw [this]
  exact List.drop_left' (by simp)
 obtain ⟨k, hk⟩ : ∃ k, m - L.length = k + 1 := ⟨m - L.length - 1, by omega⟩
 have hk2 : m - (L ++ [x]).length = k := by rw [List.length_append, List.length_singleton]; omega
 refine ⟨by omega, by rw [List.length_append, List.length_singleton]; omega, ?_⟩
 rw [h3, hs, hk, linesL_next r ha hp hx, hd, hk2]
 simp [Nat.add_assoc]

def linesT (l : List Rc) : List UInt8 := l.flatMap fun r => r.text ++ [10]

theorem linesT_cons (r : Rc) (l : List Rc) : linesT (r :: l) = r.text ++ 10 :: linesT l := by simp [linesT]

theorem linesT_append (a b : List Rc) : linesT (a ++ b) = linesT a ++ linesT b := by simp [linesT]

def Goods (l : List Rc) : Prop := ∀ r ∈ l, r.ints ∧ r.code = 0

theorem pCode_good {r : Rc} (hi : r.ints) (h : r.code = 0) : pCode r.text = 0 := by
 have := text_short hi h
 rw [pCode, if_neg (by omega), read_text hi]
 exact h

theorem pCode_back {a : List UInt8} (h : pCode a = 0) : ∃ x, readL a = some x ∧ x.ints ∧ x.code = 0 ∧ x.text = a := by
 unfold pCode at h
 split at h
 ·cases h
 ·split at h
  ·cases h
  ·rename_i x hx
   obtain ⟨h1, h2⟩ := text_read hx
   exact ⟨x, hx, h2, h, h1⟩

theorem itoa_line (n : Int) : (10 : UInt8) ∉ Lib.itoa n := by
 have hd : ∀ u, (10 : UInt8) ∉ Lib.decDigits u := by
  intro u h
  have := dec_digits u 10 h
  simp at this
 unfold Lib.itoa
 split
 ·intro h
  rcases List.mem_cons.1 h with h | h
  ·cases h
  ·exact hd _ h
 ·exact hd _

theorem dig_line : ∀ n, n < 16 → dig n ≠ 10 := by decide

theorem hexW_line (l : List UInt8) : (10 : UInt8) ∉ hexW l := by
 have hl : (10 : UInt8) ∉ hexL l := by
  induction l with
  | nil => simp [hexL]
  | cons b l ih =>
   rw [hexL_cons]
   intro h
   rcases List.mem_cons.1 h with h | h
   ·exact dig_line _ (by have := b.toNat_lt; omega) h.symm
   ·rcases List.mem_cons.1 h with h | h
    ·exact dig_line _ (by omega) h.symm
    ·exact ih h
 intro h
 rcases List.mem_cons.1 h with h | h
 ·cases h
 ·exact hl h

theorem join_line : ∀ (ws : List (List UInt8)), (∀ x ∈ ws, (10 : UInt8) ∉ x) → (10 : UInt8) ∉ Lib.join ws [32]
 | [], _ => by simp [Lib.join]
 | [x], h => by rw [Lib.join_one]; exact h x (by simp)
 | x :: y :: r, h => by
  have ih := join_line (y :: r) (fun z hz => h z (List.mem_cons_of_mem _ hz))
  have e : Lib.join (x :: y :: r) [32] = x ++ 32 :: Lib.join (y :: r) [32] := by
   rw [Lib.join_cons, Lib.join_cons]; simp [Lib.joinTail]
  rw [e]
  intro hm
  rcases List.mem_append.1 hm with hm | hm
  ·exact h x (by simp) hm
  ·rcases List.mem_cons.1 hm with hm | hm
   ·cases hm
   ·exact ih hm

theorem text_line (r : Rc) : (10 : UInt8) ∉ r.text := by
 refine join_line _ ?_
 intro x hx
 simp only [Rc.words, List.mem_append, List.mem_map, List.mem_cons, List.not_mem_nil, or_false] at hx
 rcases hx with ⟨n, _, rfl⟩ | rfl | rfl
 ·exact itoa_line n
 ·exact hexW_line _
 ·exact hexW_line _

theorem linesL_text : ∀ (l : List Rc) (m : Nat) (x : List UInt8), Goods l → l.length ≤ m → linesL m (linesT l ++ x) = (l ++ (linesL (m - l.length) x).1, (linesT l).length + (linesL (m - l.length) x).2.1, (linesL (m - l.length) x).2.2)
 | [], m, x, _, _ => by simp [linesT]
 | r :: l, m, x, hg, hl => by
  obtain ⟨k, rfl⟩ : ∃ k, m = k + 1 := ⟨m - 1, by simp at hl; omega⟩
  have hr := hg r (by simp)
  have ih := linesL_text l k x (fun y hy => hg y (List.mem_cons_of_mem _ hy)) (by simpa using hl)
  have e1 : linesT (r :: l) ++ x = r.text ++ 10 :: (linesT l ++ x) := by rw [linesT_cons]; simp
  rw [e1, linesL_next _ (text_line r) (pCode_good hr.1 hr.2) (read_text hr.1), ih, linesT_cons]
  have e2 : k + 1 - (r :: l).length = k - l.length := by simp
  rw [e2]
  simp
  omega

theorem linesL_back : ∀ (f m : Nat) (s : List UInt8), s.length < f → Goods (linesL m s).1 ∧ (linesL m s).1.length ≤ m ∧ (linesL m s).2.1 ≤ s.length ∧ s.take (linesL m s).2.1 = linesT (linesL m s).1 ∧ ((linesL m s).2.2 = 0 → (linesL m s).2.1 = s.length)
 | 0, _, _, h => absurd h (by omega)
 | f + 1, m, s, h => by
  rcases line_cases s with h1 | ⟨a, r, h1, rfl⟩
  ·rw [linesL_none h1]
   refine ⟨fun _ h => absurd h (by simp), Nat.zero_le _, Nat.zero_le _, rfl, ?_⟩
   simp only
   split
   ·rename_i e; intro _; rw [e]; rfl
   ·intro e; cases e
  ·by_cases hp : pCode a = 0
   ·obtain ⟨x, hx, hi, hc, ht⟩ := pCode_back hp
    cases m with
    | zero =>
     rw [linesL_many r h1 hp]
     exact ⟨fun _ h => absurd h (by simp), Nat.zero_le _, Nat.zero_le _, rfl, fun e => by cases e⟩
    | succ k =>
     obtain ⟨i1, i2, i3, i4, i5⟩ := linesL_back f k r (by simp at h; omega)
     rw [linesL_next r h1 hp hx]
     refine ⟨?_, by simp; exact i2, by simp; omega, ?_, ?_⟩
     ·intro y hy
      rcases List.mem_cons.1 hy with rfl | hy
      ·exact ⟨hi, hc⟩
      ·exact i1 y hy
     ·simp only
      rw [linesT_cons, ht, ← i4]
      have e1 : a ++ 10 :: r = (a ++ [10]) ++ r := by simp
      have e2 : a.length + 1 = (a ++ [10]).length := by simp
      rw [e1, e2, List.take_append, List.take_of_length_le (by omega)]
      simp
     ·intro e
      have := i5 e
      simp only [List.length_append, List.length_cons]
      omega
   ·rw [linesL_bad r h1 hp]
    exact ⟨fun _ h => absurd h (by simp), Nat.zero_le _, Nat.zero_le _, rfl, fun e => absurd e hp⟩

theorem linesL_size (m : Nat) (s : List UInt8) : (linesL m s).2.1 ≤ s.length := (linesL_back _ m s (Nat.lt_succ_self _)).2.2.1
theorem linesL_log {m : Nat} (a : List Rc) (ha : Goods a) (hm : a.length ≤ m) : linesL m (linesT a) = (a, (linesT a).length, 0) := by
 have := linesL_text a m [] ha hm
 rw [linesL_nil, List.append_nil] at this
 simpa using this

def LineR (B : Nat) (l : List UInt8) (e : Ending) (w' : World) : Prop :=
 ((10 : UInt8) ∉ l ∧ e = .returned (.tuple #[rcV rc0 none 0 none 0, .int .i64 0, .int .i64 9])) ∨
 (∃ a r : List UInt8, (10 : UInt8) ∉ a ∧ l = a ++ 10 :: r ∧ pCode a ≠ 0 ∧ e = .returned (.tuple #[rcV rc0 none 0 none 0, .int .i64 0, .int .i64 (pCode a)])) ∨
 (∃ (a r : List UInt8) (x : Rc) (da : Option Addr) (dc : Nat) (ca : Option Addr) (cc : Nat), (10 : UInt8) ∉ a ∧ l = a ++ 10 :: r ∧ pCode a = 0 ∧ readL a = some x ∧ e = .returned (.tuple #[rcV x da dc ca cc, .int .i64 ((a.length + 1 : Nat) : Int), .int .i64 0]) ∧ Lies w' da (bs x.d) ∧ Lies w' ca (bs x.c) ∧ (∀ b o, da = some ⟨b, o, none⟩ → B ≤ b) ∧ (∀ b o, ca = some ⟨b, o, none⟩ → B ≤ b))

set_option maxHeartbeats 2000000 in
set_option maxRecDepth 8000 in
theorem readLine_any (pa : Addr) (cp : Nat) (l : List UInt8) (w : World) (hn : l.length ≤ 120000) (hcap : l.length ≤ cp) (h : Lies w (some pa) (bs l)) (hL : LaidN w) :
  Calls Tryz.prog 82 #[.slice (some pa) l.length cp] w fun e w' => Below w.heap.size w w' ∧ LineR w.heap.size l e w' := by
 obtain ⟨W, hW⟩ : ∃ W, w.alloc (.cells #[.int .i64 0, .int .i64 0, .int .i64 0, .int .i64 0, .int .i64 0, .int .i64 0, .int .i64 0, .int .i64 0, .int .i64 0, .int .i64 0, .int .i64 0, .slice none 0 0, .slice none 0 0] 40) = W := ⟨_, rfl⟩
 have hBW : Below w.heap.size w W := by rw [← hW]; exact (Below.refl _ _).alloc (Nat.le_refl _) _
 have hbW : W.heap[w.heap.size]? = some (.cells #[.int .i64 0, .int .i64 0, .int .i64 0, .int .i64 0, .int .i64 0, .int .i64 0, .int .i64 0, .int .i64 0, .int .i64 0, .int .i64 0, .int .i64 0, .slice none 0 0, .slice none 0 0] 40 (0, 0)) := by rw [← hW, heap_alloc_eq, if_pos rfl]
 have hlW := h.below hBW (Nat.le_refl _)
 have hLW := hL.below hBW
 have hI := indexLF_any pa cp l W hlW
 have hwW : w.heap.size < W.heap.size := (Array.getElem?_eq_some_iff.1 hbW).1
 rcases line_cases l with hno | ⟨a, r, ha, hl⟩
 ·rw [indexLF_none hno] at hI
  go_enter Tryz.func82, Tryz.ntmps82
  go_wp2_with fail
  refine hI.mono ?_
  rintro e _ ⟨rfl, rfl⟩
  clear hI
  have z0 : W.cell? ⟨w.heap.size, 0, none⟩ = some (.int .i64 0) := cellB hbW 0 _ rfl
  have f0 : W.frozen? ⟨w.heap.size, 0, none⟩ = false := by simp [World.frozen?, hbW]
  have z1 : W.cell? ⟨w.heap.size, 1, none⟩ = some (.int .i64 0) := cellB hbW 1 _ rfl
  have f1 : W.frozen? ⟨w.heap.size, 1, none⟩ = false := by simp [World.frozen?, hbW]
  have z2 : W.cell? ⟨w.heap.size, 2, none⟩ = some (.int .i64 0) := cellB hbW 2 _ rfl
  have f2 : W.frozen? ⟨w.heap.size, 2, none⟩ = false := by simp [World.frozen?, hbW]
  have z3 : W.cell? ⟨w.heap.size, 3, none⟩ = some (.int .i64 0) := cellB hbW 3 _ rfl
  have f3 : W.frozen? ⟨w.heap.size, 3, none⟩ = false := by simp [World.frozen?, hbW]
  have z4 : W.cell? ⟨w.heap.size, 4, none⟩ = some (.int .i64 0) := cellB hbW 4 _ rfl
  have f4 : W.frozen? ⟨w.heap.size, 4, none⟩ = false := by simp [World.frozen?, hbW]
  have z5 : W.cell? ⟨w.heap.size, 5, none⟩ = some (.int .i64 0) := cellB hbW 5 _ rfl
  have f5 : W.frozen? ⟨w.heap.size, 5, none⟩ = false := by simp [World.frozen?, hbW]
  have z6 : W.cell? ⟨w.heap.size, 6, none⟩ = some (.int .i64 0) := cellB hbW 6 _ rfl
  have f6 : W.frozen? ⟨w.heap.size, 6, none⟩ = false := by simp [World.frozen?, hbW]
  have z7 : W.cell? ⟨w.heap.size, 7, none⟩ = some (.int .i64 0) := cellB hbW 7 _ rfl
  have f7 : W.frozen? ⟨w.heap.size, 7, none⟩ = false := by simp [World.frozen?, hbW]
  have z8 : W.cell? ⟨w.heap.size, 8, none⟩ = some (.int .i64 0) := cellB hbW 8 _ rfl
  have f8 : W.frozen? ⟨w.heap.size, 8, none⟩ = false := by simp [World.frozen?, hbW]
  have z9 : W.cell? ⟨w.heap.size, 9, none⟩ = some (.int .i64 0) := cellB hbW 9 _ rfl
  have f9 : W.frozen? ⟨w.heap.size, 9, none⟩ = false := by simp [World.frozen?, hbW]
  have z10 : W.cell? ⟨w.heap.size, 10, none⟩ = some (.int .i64 0) := cellB hbW 10 _ rfl
  have f10 : W.frozen? ⟨w.heap.size, 10, none⟩ = false := by simp [World.frozen?, hbW]
  have z11 : W.cell? ⟨w.heap.size, 11, none⟩ = some (.slice none 0 0) := cellB hbW 11 _ rfl
  have f11 : W.frozen? ⟨w.heap.size, 11, none⟩ = false := by simp [World.frozen?, hbW]
  have z12 : W.cell? ⟨w.heap.size, 12, none⟩ = some (.slice none 0 0) := cellB hbW 12 _ rfl
  have f12 : W.frozen? ⟨w.heap.size, 12, none⟩ = false := by simp [World.frozen?, hbW]
  go_wp2
  obtain ⟨W9, hW9, hb9, hk9, hB9⟩ := box13 W w.heap.size 40 _ _ _ _ _ _ _ _ _ _ _ _ _ (.int .i64 0) (.int .i64 0) (.int .i64 0) (.int .i64 0) (.int .i64 0) (.int .i64 0) (.int .i64 0) (.int .i64 0) (.int .i64 0) (.int .i64 0) (.int .i64 0) (.slice none 0 0) (.slice none 0 0) hbW
  rw [hW9]
  have hF9 := hB9 _ _ (Nat.le_refl _) hBW
  clear hW9 hB9 z0 f0 z1 f1 z2 f2 z3 f3 z4 f4 z5 f5 z6 f6 z7 f7 z8 f8 z9 f9 z10 f10 z11 f11 z12 f12
  obtain ⟨z0, z1, z2, z3, z4, z5, z6, z7, z8, z9, z10, z11, z12⟩ := bx13 hb9
  refine bodyPost_ret (v := .tuple #[rcV rc0 none 0 none 0, .int .i64 0, .int .i64 9]) (by simp [results, Tryz.results82, go_sem, rcV, rc0, z0, z1, z2, z3, z4, z5, z6, z7, z8, z9, z10, z11, z12]) rfl ?_
  exact ⟨hF9, Or.inl ⟨hno, rfl⟩⟩
 ·have hle : a.length < l.length := by rw [hl, List.length_append, List.length_cons]; omega
  have hla : Lies W (some pa) (bs a) := by
   intro k u hu
   refine hlW k u ?_
   rw [hl, bs, List.map_append, List.getElem?_append_left (by
    rcases Nat.lt_or_ge k (bs a).length with h1 | h1
    ·simpa [bs] using h1
    ·rw [List.getElem?_eq_none h1] at hu; cases hu)]
   exact hu
  rw [hl, indexLF_hit a r ha, ← hl] at hI
  have HL := Shut.mk hl
  clear hl
  obtain ⟨n, hln⟩ : ∃ n, l.length = n := ⟨_, rfl⟩
  obtain ⟨m, hm⟩ : ∃ m, a.length = m := ⟨_, rfl⟩
  rw [hln] at hI hle hn hcap ⊢
  rw [hm] at hI hle
  have hcv := fun c => convBytes (w := W) (a := some pa) (n := m) (c := c) hla hm
  have hmn : ¬ n < m := by omega
  have HM := Shut.mk hm
  have hP := parseF_any ⟨a.toArray⟩ W hLW
  go_enter Tryz.func82, Tryz.ntmps82
  go_wp2_with fail
  refine hI.mono ?_
  rintro e _ ⟨rfl, rfl⟩
  clear hI
  go_wp2_with fail
  refine hP.mono ?_
  rintro e W1 ⟨hb1, hR⟩
  have hg1 := blkB hbW hb1
  have hF1 := hBW.trans (hb1.mono hBW.size)
  clear hP hbW hcv hla hlW hW
  rcases hR with ⟨hne, rfl⟩ | ⟨hp, r', da, dc, ca, cc, hrd, hr0, rfl, hld, hlc, hfd, hfc⟩
  ·have bz : (pCode a != 0) = true := by simpa using hne
   have sz : Shut (pCode a ≠ 0) := ⟨hne⟩
   obtain ⟨z, hz⟩ : ∃ z, pCode a = z := ⟨_, rfl⟩
   have HZ := Shut.mk hz
   simp only [hz] at bz ⊢
   clear hne hz
   simp only [rcV, rc0, List.length_nil]
   go_upto_region 5 with fail
   generalize hW2 : W1.alloc (.cells #[.int .i64 0, .int .i64 0, .int .i64 0, .int .i64 0, .int .i64 0, .int .i64 0, .int .i64 0, .int .i64 0, .int .i64 0, .int .i64 0, .int .i64 0, .slice none 0 0, .slice none 0 0] 40) = W2
   have hb2 : Below W1.heap.size W1 W2 := by rw [← hW2]; exact (Below.refl _ _).alloc (Nat.le_refl _) _
   have hg2 := blkB hg1 hb2
   have hF2 := hF1.trans (hb2.mono hF1.size)
   clear hW2 hb2
   have z0 : W2.cell? ⟨w.heap.size, 0, none⟩ = some (.int .i64 0) := cellB hg2 0 _ rfl
   have f0 : W2.frozen? ⟨w.heap.size, 0, none⟩ = false := by simp [World.frozen?, hg2]
   have z1 : W2.cell? ⟨w.heap.size, 1, none⟩ = some (.int .i64 0) := cellB hg2 1 _ rfl
   have f1 : W2.frozen? ⟨w.heap.size, 1, none⟩ = false := by simp [World.frozen?, hg2]
   have z2 : W2.cell? ⟨w.heap.size, 2, none⟩ = some (.int .i64 0) := cellB hg2 2 _ rfl
   have f2 : W2.frozen? ⟨w.heap.size, 2, none⟩ = false := by simp [World.frozen?, hg2]
   have z3 : W2.cell? ⟨w.heap.size, 3, none⟩ = some (.int .i64 0) := cellB hg2 3 _ rfl
   have f3 : W2.frozen? ⟨w.heap.size, 3, none⟩ = false := by simp [World.frozen?, hg2]
   have z4 : W2.cell? ⟨w.heap.size, 4, none⟩ = some (.int .i64 0) := cellB hg2 4 _ rfl
   have f4 : W2.frozen? ⟨w.heap.size, 4, none⟩ = false := by simp [World.frozen?, hg2]
   have z5 : W2.cell? ⟨w.heap.size, 5, none⟩ = some (.int .i64 0) := cellB hg2 5 _ rfl
   have f5 : W2.frozen? ⟨w.heap.size, 5, none⟩ = false := by simp [World.frozen?, hg2]
   have z6 : W2.cell? ⟨w.heap.size, 6, none⟩ = some (.int .i64 0) := cellB hg2 6 _ rfl
   have f6 : W2.frozen? ⟨w.heap.size, 6, none⟩ = false := by simp [World.frozen?, hg2]
   have z7 : W2.cell? ⟨w.heap.size, 7, none⟩ = some (.int .i64 0) := cellB hg2 7 _ rfl
   have f7 : W2.frozen? ⟨w.heap.size, 7, none⟩ = false := by simp [World.frozen?, hg2]
   have z8 : W2.cell? ⟨w.heap.size, 8, none⟩ = some (.int .i64 0) := cellB hg2 8 _ rfl
   have f8 : W2.frozen? ⟨w.heap.size, 8, none⟩ = false := by simp [World.frozen?, hg2]
   have z9 : W2.cell? ⟨w.heap.size, 9, none⟩ = some (.int .i64 0) := cellB hg2 9 _ rfl
   have f9 : W2.frozen? ⟨w.heap.size, 9, none⟩ = false := by simp [World.frozen?, hg2]
   have z10 : W2.cell? ⟨w.heap.size, 10, none⟩ = some (.int .i64 0) := cellB hg2 10 _ rfl
   have f10 : W2.frozen? ⟨w.heap.size, 10, none⟩ = false := by simp [World.frozen?, hg2]
   have z11 : W2.cell? ⟨w.heap.size, 11, none⟩ = some (.slice none 0 0) := cellB hg2 11 _ rfl
   have f11 : W2.frozen? ⟨w.heap.size, 11, none⟩ = false := by simp [World.frozen?, hg2]
   have z12 : W2.cell? ⟨w.heap.size, 12, none⟩ = some (.slice none 0 0) := cellB hg2 12 _ rfl
   have f12 : W2.frozen? ⟨w.heap.size, 12, none⟩ = false := by simp [World.frozen?, hg2]
   go_wp2
   obtain ⟨W9, hW9, hb9, hk9, hB9⟩ := box13 W2 w.heap.size 40 _ _ _ _ _ _ _ _ _ _ _ _ _ (.int .i64 0) (.int .i64 0) (.int .i64 0) (.int .i64 0) (.int .i64 0) (.int .i64 0) (.int .i64 0) (.int .i64 0) (.int .i64 0) (.int .i64 0) (.int .i64 0) (.slice none 0 0) (.slice none 0 0) hg2
   rw [hW9]
   have hF9 := hB9 _ _ (Nat.le_refl _) hF2
   clear hW9 hB9 z0 f0 z1 f1 z2 f2 z3 f3 z4 f4 z5 f5 z6 f6 z7 f7 z8 f8 z9 f9 z10 f10 z11 f11 z12 f12
   obtain ⟨z0, z1, z2, z3, z4, z5, z6, z7, z8, z9, z10, z11, z12⟩ := bx13 hb9
   refine bodyPost_ret (v := .tuple #[rcV rc0 none 0 none 0, .int .i64 0, .int .i64 z]) (by simp [results, Tryz.results82, go_sem, rcV, rc0, z0, z1, z2, z3, z4, z5, z6, z7, z8, z9, z10, z11, z12]) rfl ?_
   exact ⟨hF9, Or.inr (Or.inl ⟨a, r, ha, HL.out, sz.out, by rw [HZ.out]⟩)⟩
  ·have HR := Shut.mk (And.intro hp (And.intro hrd (And.intro hr0 (And.intro hfd hfc))))
   clear hp hrd hr0 hfd hfc
   obtain ⟨r, hrr⟩ : ∃ rr, rr = r' := ⟨_, rfl⟩
   subst hrr
   simp only [rcV]
   go_upto_region 5 with fail
   generalize hW2 : W1.alloc (.cells #[.int .i64 r.k, .int .i64 r.p, .int .i64 r.n, .int .i64 r.y, .int .i64 r.h.F, .int .i64 r.h.Q, .int .i64 r.h.T, .int .i64 r.h.L, .int .i64 r.h.B, .int .i64 r.h.K, .int .i64 r.id, .slice da r.d.length dc, .slice ca r.c.length cc] 40) = W2
   have hb2 : Below W1.heap.size W1 W2 := by rw [← hW2]; exact (Below.refl _ _).alloc (Nat.le_refl _) _
   have hq2 : W2.heap[W1.heap.size]? = some (.cells #[.int .i64 r.k, .int .i64 r.p, .int .i64 r.n, .int .i64 r.y, .int .i64 r.h.F, .int .i64 r.h.Q, .int .i64 r.h.T, .int .i64 r.h.L, .int .i64 r.h.B, .int .i64 r.h.K, .int .i64 r.id, .slice da r.d.length dc, .slice ca r.c.length cc] 40 (0, 0)) := by rw [← hW2, heap_alloc_eq, if_pos rfl]
   have hg2 := blkB hg1 hb2
   have hF2 := hF1.trans (hb2.mono hF1.size)
   replace hld := hld.below hb2 (Nat.le_refl _)
   replace hlc := hlc.below hb2 (Nat.le_refl _)
   clear hW2 hb2
   obtain ⟨q0, q1, q2, q3, q4, q5, q6, q7, q8, q9, q10, q11, q12⟩ := bx13 hq2
   have z0 : W2.cell? ⟨w.heap.size, 0, none⟩ = some (.int .i64 0) := cellB hg2 0 _ rfl
   have f0 : W2.frozen? ⟨w.heap.size, 0, none⟩ = false := by simp [World.frozen?, hg2]
   have z1 : W2.cell? ⟨w.heap.size, 1, none⟩ = some (.int .i64 0) := cellB hg2 1 _ rfl
   have f1 : W2.frozen? ⟨w.heap.size, 1, none⟩ = false := by simp [World.frozen?, hg2]
   have z2 : W2.cell? ⟨w.heap.size, 2, none⟩ = some (.int .i64 0) := cellB hg2 2 _ rfl
   have f2 : W2.frozen? ⟨w.heap.size, 2, none⟩ = false := by simp [World.frozen?, hg2]
   have z3 : W2.cell? ⟨w.heap.size, 3, none⟩ = some (.int .i64 0) := cellB hg2 3 _ rfl
   have f3 : W2.frozen? ⟨w.heap.size, 3, none⟩ = false := by simp [World.frozen?, hg2]
   have z4 : W2.cell? ⟨w.heap.size, 4, none⟩ = some (.int .i64 0) := cellB hg2 4 _ rfl
   have f4 : W2.frozen? ⟨w.heap.size, 4, none⟩ = false := by simp [World.frozen?, hg2]
   have z5 : W2.cell? ⟨w.heap.size, 5, none⟩ = some (.int .i64 0) := cellB hg2 5 _ rfl
   have f5 : W2.frozen? ⟨w.heap.size, 5, none⟩ = false := by simp [World.frozen?, hg2]
   have z6 : W2.cell? ⟨w.heap.size, 6, none⟩ = some (.int .i64 0) := cellB hg2 6 _ rfl
   have f6 : W2.frozen? ⟨w.heap.size, 6, none⟩ = false := by simp [World.frozen?, hg2]
   have z7 : W2.cell? ⟨w.heap.size, 7, none⟩ = some (.int .i64 0) := cellB hg2 7 _ rfl
   have f7 : W2.frozen? ⟨w.heap.size, 7, none⟩ = false := by simp [World.frozen?, hg2]
   have z8 : W2.cell? ⟨w.heap.size, 8, none⟩ = some (.int .i64 0) := cellB hg2 8 _ rfl
   have f8 : W2.frozen? ⟨w.heap.size, 8, none⟩ = false := by simp [World.frozen?, hg2]
   have z9 : W2.cell? ⟨w.heap.size, 9, none⟩ = some (.int .i64 0) := cellB hg2 9 _ rfl
   have f9 : W2.frozen? ⟨w.heap.size, 9, none⟩ = false := by simp [World.frozen?, hg2]
   have z10 : W2.cell? ⟨w.heap.size, 10, none⟩ = some (.int .i64 0) := cellB hg2 10 _ rfl
   have f10 : W2.frozen? ⟨w.heap.size, 10, none⟩ = false := by simp [World.frozen?, hg2]
   have z11 : W2.cell? ⟨w.heap.size, 11, none⟩ = some (.slice none 0 0) := cellB hg2 11 _ rfl
   have f11 : W2.frozen? ⟨w.heap.size, 11, none⟩ = false := by simp [World.frozen?, hg2]
   have z12 : W2.cell? ⟨w.heap.size, 12, none⟩ = some (.slice none 0 0) := cellB hg2 12 _ rfl
   have f12 : W2.frozen? ⟨w.heap.size, 12, none⟩ = false := by simp [World.frozen?, hg2]
   go_wp2
   obtain ⟨W9, hW9, hb9, hk9, hB9⟩ := box13 W2 w.heap.size 40 _ _ _ _ _ _ _ _ _ _ _ _ _ (.int .i64 r.k) (.int .i64 r.p) (.int .i64 r.n) (.int .i64 r.y) (.int .i64 r.h.F) (.int .i64 r.h.Q) (.int .i64 r.h.T) (.int .i64 r.h.L) (.int .i64 r.h.B) (.int .i64 r.h.K) (.int .i64 r.id) (.slice da r.d.length dc) (.slice ca r.c.length cc) hg2
   rw [hW9]
   have hF9 := hB9 _ _ (Nat.le_refl _) hF2
   clear hW9 hB9 z0 f0 z1 f1 z2 f2 z3 f3 z4 f4 z5 f5 z6 f6 z7 f7 z8 f8 z9 f9 z10 f10 z11 f11 z12 f12
   obtain ⟨z0, z1, z2, z3, z4, z5, z6, z7, z8, z9, z10, z11, z12⟩ := bx13 hb9
   refine bodyPost_ret (v := .tuple #[rcV r da dc ca cc, .int .i64 ((m : Int) + 1), .int .i64 0]) (by simp [results, Tryz.results82, go_sem, rcV, rc0, z0, z1, z2, z3, z4, z5, z6, z7, z8, z9, z10, z11, z12]) rfl ?_
   exact ⟨hF9, Or.inr (Or.inr ⟨a, _, r, da, dc, ca, cc, ha, HL.out, HR.out.1, HR.out.2.1, by rw [HM.out]; rfl, liesFar hld hk9 (fun b o e => by have := HR.out.2.2.2.1 b o e; omega), liesFar hlc hk9 (fun b o e => by have := HR.out.2.2.2.2 b o e; omega), fun b o e => by have := HR.out.2.2.2.1 b o e; omega, fun b o e => by have := HR.out.2.2.2.2 b o e; omega⟩)⟩

end Go.Proofs.YtakkajjoeimkdaaGreatDoor
