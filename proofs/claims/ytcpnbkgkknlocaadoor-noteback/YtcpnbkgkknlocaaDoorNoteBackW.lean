/-
  NoteBack's walk: what is printed is read, what is read is printed as it was; unlike records have unlike texts.
-/
import Derived.Test.YtcpnbkgkknlocaaDoorNoteI
namespace Go.Proofs.YtcpnbkgkknlocaaDoor
open Go.RowKit
set_option linter.unusedVariables false
set_option linter.unusedSimpArgs false

theorem printed_ok {r : Rc} (h : r.code = 0) : r.printed = r.text := if_pos h

theorem pCode_text {r : Rc} (hi : r.ints) (h : r.code = 0) : pCode r.text = 0 := by
  have := text_short hi h
  rw [pCode, if_neg (by omega), read_text hi]
  exact h

set_option maxHeartbeats 2000000 in
set_option maxRecDepth 8000 in
theorem W_noteBack (r q : Rc) (da : Option Addr) (dc : Nat) (ca : Option Addr) (cc : Nat) (ea : Option Addr) (ec : Nat) (fa : Option Addr) (fc : Nat) (s : ByteArray) (w : World) (hir : r.ints) (hiq : q.ints) (ld : r.d.length ≤ maxLen) (lc : r.c.length ≤ maxLen) (ld' : q.d.length ≤ maxLen) (lc' : q.c.length ≤ maxLen)
    (hd : Lies w da (bs r.d)) (hc : Lies w ca (bs r.c)) (hd' : Lies w ea (bs q.d)) (hc' : Lies w fa (bs q.c)) (hL : LaidN w) :
    Calls Tryd.prog 4 #[rcV r da dc ca cc, rcV q ea ec fa fc, .string s] w fun e w' => e = .returned (.bool true) ∧ Below w.heap.size w w' := by
  obtain ⟨W, hW⟩ : ∃ W, (w.alloc (.cells #[.int .i64 r.k, .int .i64 r.p, .int .i64 r.n, .int .i64 r.y, .int .i64 r.h.F, .int .i64 r.h.Q, .int .i64 r.h.T, .int .i64 r.h.L, .int .i64 r.h.B, .int .i64 r.h.K, .int .i64 r.id, .slice da r.d.length dc, .slice ca r.c.length cc] 31)).alloc (.cells #[.int .i64 q.k, .int .i64 q.p, .int .i64 q.n, .int .i64 q.y, .int .i64 q.h.F, .int .i64 q.h.Q, .int .i64 q.h.T, .int .i64 q.h.L, .int .i64 q.h.B, .int .i64 q.h.K, .int .i64 q.id, .slice ea q.d.length ec, .slice fa q.c.length fc] 31) = W := ⟨_, rfl⟩
  have hBW : Below w.heap.size w W := by rw [← hW]; exact ((Below.refl _ _).alloc (Nat.le_refl _) _).alloc (by simp) _
  have hb1 : W.heap[w.heap.size]? = some (.cells #[.int .i64 r.k, .int .i64 r.p, .int .i64 r.n, .int .i64 r.y, .int .i64 r.h.F, .int .i64 r.h.Q, .int .i64 r.h.T, .int .i64 r.h.L, .int .i64 r.h.B, .int .i64 r.h.K, .int .i64 r.id, .slice da r.d.length dc, .slice ca r.c.length cc] 31 (0, 0)) := by rw [← hW, heap_alloc_eq, if_neg (by simp), heap_alloc_eq, if_pos rfl]
  have hb2 : W.heap[w.heap.size + 1]? = some (.cells #[.int .i64 q.k, .int .i64 q.p, .int .i64 q.n, .int .i64 q.y, .int .i64 q.h.F, .int .i64 q.h.Q, .int .i64 q.h.T, .int .i64 q.h.L, .int .i64 q.h.B, .int .i64 q.h.K, .int .i64 q.id, .slice ea q.d.length ec, .slice fa q.c.length fc] 31 (0, 0)) := by rw [← hW, heap_alloc_eq, if_pos (by simp)]
  replace hd := Lies.below hBW hd (Nat.le_refl _)
  replace hc := Lies.below hBW hc (Nat.le_refl _)
  replace hd' := Lies.below hBW hd' (Nat.le_refl _)
  replace hc' := Lies.below hBW hc' (Nat.le_refl _)
  have hLW := hL.below hBW
  have hP1 := print_any r da dc ca cc W hir ld hd hc hLW
  have hP2 : ∀ w1, Below W.heap.size W w1 → Calls Tryd.prog 5 #[rcV q ea ec fa fc] w1 fun e w' => e = .returned (.tuple #[.string ⟨q.printed.toArray⟩, .int .i64 q.code]) ∧ Below w1.heap.size w1 w' := fun w1 hb => print_any q ea ec fa fc w1 hiq ld' (hd'.below hb (Nat.le_refl _)) (hc'.below hb (Nat.le_refl _)) (hLW.below hb)
  have hS : ∀ w1, Below W.heap.size W w1 → Calls Tryd.prog 12 #[rcV r da dc ca cc, rcV q ea ec fa fc] w1 fun e w' => e = .returned (.bool (decide (r = q))) ∧ Below w1.heap.size w1 w' := fun w1 hb => same_any r q da dc ca cc ea ec fa fc w1 (hd.below hb (Nat.le_refl _)) (hc.below hb (Nat.le_refl _)) (hd'.below hb (Nat.le_refl _)) (hc'.below hb (Nat.le_refl _)) ld lc ld' lc'
  have hS2 : ∀ w1 (xa : Option Addr) (xc : Nat) (ya : Option Addr) (yc : Nat), Below W.heap.size W w1 → Lies w1 xa (bs r.d) → Lies w1 ya (bs r.c) → Calls Tryd.prog 12 #[rcV r xa xc ya yc, rcV r da dc ca cc] w1 fun e w' => e = .returned (.bool (decide (r = r))) ∧ Below w1.heap.size w1 w' := fun w1 xa xc ya yc hb h1 h2 => same_any r r xa xc ya yc da dc ca cc w1 h1 h2 (hd.below hb (Nat.le_refl _)) (hc.below hb (Nat.le_refl _)) ld lc ld lc
  have HEQ : Shut (r.code = 0 → q.code = 0 → ((⟨r.printed.toArray⟩ : ByteArray).toList == (⟨q.printed.toArray⟩ : ByteArray).toList) = decide (r = q)) := ⟨fun h1 h2 => by
    rw [strEq]
    show decide (r.printed = q.printed) = decide (r = q)
    rw [printed_ok h1, printed_ok h2]
    exact decide_eq_decide.2 (text_inj hir hiq)⟩
  have HPA : Shut (r.code = 0 → pCode r.printed = 0 ∧ readL r.printed = some r) := ⟨fun h1 => by rw [printed_ok h1]; exact ⟨pCode_text hir h1, read_text hir⟩⟩
  simp only [decide_true] at hS2
  simp only [rcV] at hP1 hP2 hS hS2 ⊢
  clear hd hc hd' hc' hL hir hiq
  have q0 : W.cell? ⟨w.heap.size, 0, none⟩ = some (.int .i64 r.k) := cellB hb1 0 _ rfl
  have q1 : W.cell? ⟨w.heap.size, 1, none⟩ = some (.int .i64 r.p) := cellB hb1 1 _ rfl
  have q2 : W.cell? ⟨w.heap.size, 2, none⟩ = some (.int .i64 r.n) := cellB hb1 2 _ rfl
  have q3 : W.cell? ⟨w.heap.size, 3, none⟩ = some (.int .i64 r.y) := cellB hb1 3 _ rfl
  have q4 : W.cell? ⟨w.heap.size, 4, none⟩ = some (.int .i64 r.h.F) := cellB hb1 4 _ rfl
  have q5 : W.cell? ⟨w.heap.size, 5, none⟩ = some (.int .i64 r.h.Q) := cellB hb1 5 _ rfl
  have q6 : W.cell? ⟨w.heap.size, 6, none⟩ = some (.int .i64 r.h.T) := cellB hb1 6 _ rfl
  have q7 : W.cell? ⟨w.heap.size, 7, none⟩ = some (.int .i64 r.h.L) := cellB hb1 7 _ rfl
  have q8 : W.cell? ⟨w.heap.size, 8, none⟩ = some (.int .i64 r.h.B) := cellB hb1 8 _ rfl
  have q9 : W.cell? ⟨w.heap.size, 9, none⟩ = some (.int .i64 r.h.K) := cellB hb1 9 _ rfl
  have q10 : W.cell? ⟨w.heap.size, 10, none⟩ = some (.int .i64 r.id) := cellB hb1 10 _ rfl
  have q11 : W.cell? ⟨w.heap.size, 11, none⟩ = some (.slice da r.d.length dc) := cellB hb1 11 _ rfl
  have q12 : W.cell? ⟨w.heap.size, 12, none⟩ = some (.slice ca r.c.length cc) := cellB hb1 12 _ rfl
  go_enter Tryd.func4, Tryd.ntmps4
  go_wp2_with fail
  refine hP1.mono ?_
  rintro e w1 ⟨rfl, hB1⟩
  have hk1 := blkB hb2 hB1
  clear hP1 hW q0 q1 q2 q3 q4 q5 q6 q7 q8 q9 q10 q11 q12
  have q0 : w1.cell? ⟨w.heap.size + 1, 0, none⟩ = some (.int .i64 q.k) := cellB hk1 0 _ rfl
  have q1 : w1.cell? ⟨w.heap.size + 1, 1, none⟩ = some (.int .i64 q.p) := cellB hk1 1 _ rfl
  have q2 : w1.cell? ⟨w.heap.size + 1, 2, none⟩ = some (.int .i64 q.n) := cellB hk1 2 _ rfl
  have q3 : w1.cell? ⟨w.heap.size + 1, 3, none⟩ = some (.int .i64 q.y) := cellB hk1 3 _ rfl
  have q4 : w1.cell? ⟨w.heap.size + 1, 4, none⟩ = some (.int .i64 q.h.F) := cellB hk1 4 _ rfl
  have q5 : w1.cell? ⟨w.heap.size + 1, 5, none⟩ = some (.int .i64 q.h.Q) := cellB hk1 5 _ rfl
  have q6 : w1.cell? ⟨w.heap.size + 1, 6, none⟩ = some (.int .i64 q.h.T) := cellB hk1 6 _ rfl
  have q7 : w1.cell? ⟨w.heap.size + 1, 7, none⟩ = some (.int .i64 q.h.L) := cellB hk1 7 _ rfl
  have q8 : w1.cell? ⟨w.heap.size + 1, 8, none⟩ = some (.int .i64 q.h.B) := cellB hk1 8 _ rfl
  have q9 : w1.cell? ⟨w.heap.size + 1, 9, none⟩ = some (.int .i64 q.h.K) := cellB hk1 9 _ rfl
  have q10 : w1.cell? ⟨w.heap.size + 1, 10, none⟩ = some (.int .i64 q.id) := cellB hk1 10 _ rfl
  have q11 : w1.cell? ⟨w.heap.size + 1, 11, none⟩ = some (.slice ea q.d.length ec) := cellB hk1 11 _ rfl
  have q12 : w1.cell? ⟨w.heap.size + 1, 12, none⟩ = some (.slice fa q.c.length fc) := cellB hk1 12 _ rfl
  go_wp2_with fail
  refine (hP2 w1 hB1).mono ?_
  rintro e w2 ⟨rfl, hB2⟩
  have hBB := hB1.trans (hB2.mono hB1.size)
  clear hP2 hB1 hB2 hk1 q0 q1 q2 q3 q4 q5 q6 q7 q8 q9 q10 q11 q12
  have hln := lined_any w2 (hLW.below hBB)
  have hPT := parse_any ⟨r.printed.toArray⟩
  generalize hza : r.code = za at *
  generalize hzq : q.code = zq at *
  generalize hTA : (⟨r.printed.toArray⟩ : ByteArray) = TA at *
  generalize (⟨q.printed.toArray⟩ : ByteArray) = TQ at *
  have HTA : Shut (TA.data.toList = r.printed) := ⟨by rw [← hTA]⟩
  clear hTA
  go_upto_region 3 with fail
  go_cut [44] from 26 to 44 (fun s44 wc => s44 = .bool false ∧ Shut (Below W.heap.size W wc))
  case first =>
    go_wp2_with fail
    refine hln.mono ?_
    rintro e w3 ⟨rfl, hb3⟩
    have hB3 := hBB.trans (hb3.mono hBB.size)
    clear hln hb3 hPT hS2
    cases bz : (za == 0) with
    | false =>
      have R := Shut.mk hB3
      go_wp2_with fail
      go_meet
      exact ⟨rfl, R⟩
    | true =>
      cases bq : (zq == 0) with
      | false =>
        have R := Shut.mk hB3
        go_wp2_with fail
        go_meet
        exact ⟨rfl, R⟩
      | true =>
        have hcmp := HEQ.out (by simpa using bz) (by simpa using bq)
        have hk1 := blkB hb1 hB3
        have hk2 := blkB hb2 hB3
        have hS3 := hS w3 hB3
        generalize decide (r = q) = D at hcmp hS3
        have q0 : w3.cell? ⟨w.heap.size, 0, none⟩ = some (.int .i64 r.k) := cellB hk1 0 _ rfl
        have q1 : w3.cell? ⟨w.heap.size, 1, none⟩ = some (.int .i64 r.p) := cellB hk1 1 _ rfl
        have q2 : w3.cell? ⟨w.heap.size, 2, none⟩ = some (.int .i64 r.n) := cellB hk1 2 _ rfl
        have q3 : w3.cell? ⟨w.heap.size, 3, none⟩ = some (.int .i64 r.y) := cellB hk1 3 _ rfl
        have q4 : w3.cell? ⟨w.heap.size, 4, none⟩ = some (.int .i64 r.h.F) := cellB hk1 4 _ rfl
        have q5 : w3.cell? ⟨w.heap.size, 5, none⟩ = some (.int .i64 r.h.Q) := cellB hk1 5 _ rfl
        have q6 : w3.cell? ⟨w.heap.size, 6, none⟩ = some (.int .i64 r.h.T) := cellB hk1 6 _ rfl
        have q7 : w3.cell? ⟨w.heap.size, 7, none⟩ = some (.int .i64 r.h.L) := cellB hk1 7 _ rfl
        have q8 : w3.cell? ⟨w.heap.size, 8, none⟩ = some (.int .i64 r.h.B) := cellB hk1 8 _ rfl
        have q9 : w3.cell? ⟨w.heap.size, 9, none⟩ = some (.int .i64 r.h.K) := cellB hk1 9 _ rfl
        have q10 : w3.cell? ⟨w.heap.size, 10, none⟩ = some (.int .i64 r.id) := cellB hk1 10 _ rfl
        have q11 : w3.cell? ⟨w.heap.size, 11, none⟩ = some (.slice da r.d.length dc) := cellB hk1 11 _ rfl
        have q12 : w3.cell? ⟨w.heap.size, 12, none⟩ = some (.slice ca r.c.length cc) := cellB hk1 12 _ rfl
        have z0 : w3.cell? ⟨w.heap.size + 1, 0, none⟩ = some (.int .i64 q.k) := cellB hk2 0 _ rfl
        have z1 : w3.cell? ⟨w.heap.size + 1, 1, none⟩ = some (.int .i64 q.p) := cellB hk2 1 _ rfl
        have z2 : w3.cell? ⟨w.heap.size + 1, 2, none⟩ = some (.int .i64 q.n) := cellB hk2 2 _ rfl
        have z3 : w3.cell? ⟨w.heap.size + 1, 3, none⟩ = some (.int .i64 q.y) := cellB hk2 3 _ rfl
        have z4 : w3.cell? ⟨w.heap.size + 1, 4, none⟩ = some (.int .i64 q.h.F) := cellB hk2 4 _ rfl
        have z5 : w3.cell? ⟨w.heap.size + 1, 5, none⟩ = some (.int .i64 q.h.Q) := cellB hk2 5 _ rfl
        have z6 : w3.cell? ⟨w.heap.size + 1, 6, none⟩ = some (.int .i64 q.h.T) := cellB hk2 6 _ rfl
        have z7 : w3.cell? ⟨w.heap.size + 1, 7, none⟩ = some (.int .i64 q.h.L) := cellB hk2 7 _ rfl
        have z8 : w3.cell? ⟨w.heap.size + 1, 8, none⟩ = some (.int .i64 q.h.B) := cellB hk2 8 _ rfl
        have z9 : w3.cell? ⟨w.heap.size + 1, 9, none⟩ = some (.int .i64 q.h.K) := cellB hk2 9 _ rfl
        have z10 : w3.cell? ⟨w.heap.size + 1, 10, none⟩ = some (.int .i64 q.id) := cellB hk2 10 _ rfl
        have z11 : w3.cell? ⟨w.heap.size + 1, 11, none⟩ = some (.slice ea q.d.length ec) := cellB hk2 11 _ rfl
        have z12 : w3.cell? ⟨w.heap.size + 1, 12, none⟩ = some (.slice fa q.c.length fc) := cellB hk2 12 _ rfl
        cases D with
        | false =>
          go_wp2_with fail
          refine hS3.mono ?_
          rintro e w4 ⟨rfl, hb4⟩
          have R := Shut.mk (hB3.trans (hb4.mono hB3.size))
          go_wp2_with fail
          go_meet
          exact ⟨rfl, R⟩
        | true =>
          go_wp2_with fail
          refine hS3.mono ?_
          rintro e w4 ⟨rfl, hb4⟩
          have R := Shut.mk (hB3.trans (hb4.mono hB3.size))
          go_wp2_with fail
          go_meet
          exact ⟨rfl, R⟩
  case rest =>
    obtain ⟨rfl, hcw⟩ := hcut
    clear hln hS HEQ hBB
    go_upto_if 46 with fail
    go_cut [] from 11 to 59 (fun wd => Shut (Below W.heap.size W wd))
    case first =>
      cases bz : (za == 0) with
      | false =>
        go_wp2_with fail
        go_meet
        exact hcw
      | true =>
        obtain ⟨hpc, hrd⟩ := HPA.out (by simpa using bz)
        have hPT2 := hPT _ (hLW.below hcw.out)
        rw [HTA.out] at hPT2
        go_wp2_with fail
        refine hPT2.mono ?_
        rintro e w5 ⟨hb5, hR⟩
        rcases hR with ⟨hne, _⟩ | ⟨_, x, xa, xc, ya, yc, hx1, _, rfl, hl1, hl2⟩
        · exact absurd hpc hne
        obtain rfl : r = x := by
          rw [hrd] at hx1
          exact Option.some.inj hx1
        have hB5 := hcw.out.trans (hb5.mono hcw.out.size)
        have hw5 : w.heap.size < w5.heap.size := (Array.getElem?_eq_some_iff.1 (blkB hb1 hB5)).1
        simp only [rcV]
        go_upto_region 7 with fail
        generalize hW6 : w5.alloc (.cells #[.int .i64 r.k, .int .i64 r.p, .int .i64 r.n, .int .i64 r.y, .int .i64 r.h.F, .int .i64 r.h.Q, .int .i64 r.h.T, .int .i64 r.h.L, .int .i64 r.h.B, .int .i64 r.h.K, .int .i64 r.id, .slice xa r.d.length xc, .slice ya r.c.length yc] 31) = w6
        have hb6 : Below w5.heap.size w5 w6 := by rw [← hW6]; exact (Below.refl _ _).alloc (Nat.le_refl _) _
        have hx6 : w6.heap[w5.heap.size]? = some (.cells #[.int .i64 r.k, .int .i64 r.p, .int .i64 r.n, .int .i64 r.y, .int .i64 r.h.F, .int .i64 r.h.Q, .int .i64 r.h.T, .int .i64 r.h.L, .int .i64 r.h.B, .int .i64 r.h.K, .int .i64 r.id, .slice xa r.d.length xc, .slice ya r.c.length yc] 31 (0, 0)) := by rw [← hW6, heap_alloc_eq, if_pos rfl]
        have hB6 := hB5.trans (hb6.mono hB5.size)
        have hk6 := blkB hb1 hB6
        have hS6 := hS2 w6 xa xc ya yc hB6 (hl1.below hb6 (Nat.le_refl _)) (hl2.below hb6 (Nat.le_refl _))
        have q0 : w6.cell? ⟨w.heap.size, 0, none⟩ = some (.int .i64 r.k) := cellB hk6 0 _ rfl
        have q1 : w6.cell? ⟨w.heap.size, 1, none⟩ = some (.int .i64 r.p) := cellB hk6 1 _ rfl
        have q2 : w6.cell? ⟨w.heap.size, 2, none⟩ = some (.int .i64 r.n) := cellB hk6 2 _ rfl
        have q3 : w6.cell? ⟨w.heap.size, 3, none⟩ = some (.int .i64 r.y) := cellB hk6 3 _ rfl
        have q4 : w6.cell? ⟨w.heap.size, 4, none⟩ = some (.int .i64 r.h.F) := cellB hk6 4 _ rfl
        have q5 : w6.cell? ⟨w.heap.size, 5, none⟩ = some (.int .i64 r.h.Q) := cellB hk6 5 _ rfl
        have q6 : w6.cell? ⟨w.heap.size, 6, none⟩ = some (.int .i64 r.h.T) := cellB hk6 6 _ rfl
        have q7 : w6.cell? ⟨w.heap.size, 7, none⟩ = some (.int .i64 r.h.L) := cellB hk6 7 _ rfl
        have q8 : w6.cell? ⟨w.heap.size, 8, none⟩ = some (.int .i64 r.h.B) := cellB hk6 8 _ rfl
        have q9 : w6.cell? ⟨w.heap.size, 9, none⟩ = some (.int .i64 r.h.K) := cellB hk6 9 _ rfl
        have q10 : w6.cell? ⟨w.heap.size, 10, none⟩ = some (.int .i64 r.id) := cellB hk6 10 _ rfl
        have q11 : w6.cell? ⟨w.heap.size, 11, none⟩ = some (.slice da r.d.length dc) := cellB hk6 11 _ rfl
        have q12 : w6.cell? ⟨w.heap.size, 12, none⟩ = some (.slice ca r.c.length cc) := cellB hk6 12 _ rfl
        have z0 : w6.cell? ⟨w5.heap.size, 0, none⟩ = some (.int .i64 r.k) := cellB hx6 0 _ rfl
        have z1 : w6.cell? ⟨w5.heap.size, 1, none⟩ = some (.int .i64 r.p) := cellB hx6 1 _ rfl
        have z2 : w6.cell? ⟨w5.heap.size, 2, none⟩ = some (.int .i64 r.n) := cellB hx6 2 _ rfl
        have z3 : w6.cell? ⟨w5.heap.size, 3, none⟩ = some (.int .i64 r.y) := cellB hx6 3 _ rfl
        have z4 : w6.cell? ⟨w5.heap.size, 4, none⟩ = some (.int .i64 r.h.F) := cellB hx6 4 _ rfl
        have z5 : w6.cell? ⟨w5.heap.size, 5, none⟩ = some (.int .i64 r.h.Q) := cellB hx6 5 _ rfl
        have z6 : w6.cell? ⟨w5.heap.size, 6, none⟩ = some (.int .i64 r.h.T) := cellB hx6 6 _ rfl
        have z7 : w6.cell? ⟨w5.heap.size, 7, none⟩ = some (.int .i64 r.h.L) := cellB hx6 7 _ rfl
        have z8 : w6.cell? ⟨w5.heap.size, 8, none⟩ = some (.int .i64 r.h.B) := cellB hx6 8 _ rfl
        have z9 : w6.cell? ⟨w5.heap.size, 9, none⟩ = some (.int .i64 r.h.K) := cellB hx6 9 _ rfl
        have z10 : w6.cell? ⟨w5.heap.size, 10, none⟩ = some (.int .i64 r.id) := cellB hx6 10 _ rfl
        have z11 : w6.cell? ⟨w5.heap.size, 11, none⟩ = some (.slice xa r.d.length xc) := cellB hx6 11 _ rfl
        have z12 : w6.cell? ⟨w5.heap.size, 12, none⟩ = some (.slice ya r.c.length yc) := cellB hx6 12 _ rfl
        clear hS2 hPT hPT2 hl1 hl2 hb5 hb6 hW6 hpc hrd hx1
        go_wp2_with fail
        refine hS6.mono ?_
        rintro e w7 ⟨rfl, hb7⟩
        have R := Shut.mk (hB6.trans (hb7.mono hB6.size))
        clear hS6 hb7
        go_wp2_with fail
        go_meet
        exact R
    case rest =>
      clear hPT hS2
      have hQ := parse_any s _ (hLW.below hcut.out)
      go_wp2_with fail
      refine hQ.mono ?_
      rintro e w5 ⟨hb5, hR⟩
      have hB5 := hcut.out.trans (hb5.mono hcut.out.size)
      have hF5 := hBW.trans (hB5.mono hBW.size)
      rcases hR with ⟨hne, rfl⟩ | ⟨hp, x, xa, xc, ya, yc, hx1, hx0, rfl, hl1, hl2⟩
      · have bz : (pCode s.data.toList != 0) = true := by simpa using hne
        generalize pCode s.data.toList = pz at bz
        simp only [rcV, rc0, List.length_nil]
        go_upto_region 10 with fail
        generalize hW6 : w5.alloc (.cells #[.int .i64 0, .int .i64 0, .int .i64 0, .int .i64 0, .int .i64 0, .int .i64 0, .int .i64 0, .int .i64 0, .int .i64 0, .int .i64 0, .int .i64 0, .slice none 0 0, .slice none 0 0] 31) = w6
        have hF6 : Below w.heap.size w w6 := by rw [← hW6]; exact hF5.alloc hF5.size _
        clear hW6
        go_wp2
        go_ret
        exact ⟨rfl, hF6⟩
      · obtain ⟨htx, hxi⟩ := text_read hx1
        obtain ⟨sd, sc⟩ := read_short hx1
        rw [sizeB] at sd sc
        have hpr : x.printed = s.data.toList := by rw [printed_ok hx0, htx]
        have hlen : x.d.length ≤ 360 := by have := code_short hx0; omega
        simp only [rcV]
        go_upto_region 10 with fail
        generalize hW6 : w5.alloc (.cells #[.int .i64 x.k, .int .i64 x.p, .int .i64 x.n, .int .i64 x.y, .int .i64 x.h.F, .int .i64 x.h.Q, .int .i64 x.h.T, .int .i64 x.h.L, .int .i64 x.h.B, .int .i64 x.h.K, .int .i64 x.id, .slice xa x.d.length xc, .slice ya x.c.length yc] 31) = w6
        have hb6 : Below w5.heap.size w5 w6 := by rw [← hW6]; exact (Below.refl _ _).alloc (Nat.le_refl _) _
        have hx6 : w6.heap[w5.heap.size]? = some (.cells #[.int .i64 x.k, .int .i64 x.p, .int .i64 x.n, .int .i64 x.y, .int .i64 x.h.F, .int .i64 x.h.Q, .int .i64 x.h.T, .int .i64 x.h.L, .int .i64 x.h.B, .int .i64 x.h.K, .int .i64 x.id, .slice xa x.d.length xc, .slice ya x.c.length yc] 31 (0, 0)) := by rw [← hW6, heap_alloc_eq, if_pos rfl]
        have hB6 := hB5.trans (hb6.mono hB5.size)
        have hF6 := hF5.trans (hb6.mono hF5.size)
        have hP := print_any x xa xc ya yc w6 hxi (by unfold maxLen; omega) (hl1.below hb6 (Nat.le_refl _)) (hl2.below hb6 (Nat.le_refl _)) (hLW.below hB6)
        have hsd : (⟨s.data.toList.toArray⟩ : ByteArray) = s := by simp
        rw [hpr, hx0, hsd] at hP
        simp only [rcV] at hP
        have z0 : w6.cell? ⟨w5.heap.size, 0, none⟩ = some (.int .i64 x.k) := cellB hx6 0 _ rfl
        have z1 : w6.cell? ⟨w5.heap.size, 1, none⟩ = some (.int .i64 x.p) := cellB hx6 1 _ rfl
        have z2 : w6.cell? ⟨w5.heap.size, 2, none⟩ = some (.int .i64 x.n) := cellB hx6 2 _ rfl
        have z3 : w6.cell? ⟨w5.heap.size, 3, none⟩ = some (.int .i64 x.y) := cellB hx6 3 _ rfl
        have z4 : w6.cell? ⟨w5.heap.size, 4, none⟩ = some (.int .i64 x.h.F) := cellB hx6 4 _ rfl
        have z5 : w6.cell? ⟨w5.heap.size, 5, none⟩ = some (.int .i64 x.h.Q) := cellB hx6 5 _ rfl
        have z6 : w6.cell? ⟨w5.heap.size, 6, none⟩ = some (.int .i64 x.h.T) := cellB hx6 6 _ rfl
        have z7 : w6.cell? ⟨w5.heap.size, 7, none⟩ = some (.int .i64 x.h.L) := cellB hx6 7 _ rfl
        have z8 : w6.cell? ⟨w5.heap.size, 8, none⟩ = some (.int .i64 x.h.B) := cellB hx6 8 _ rfl
        have z9 : w6.cell? ⟨w5.heap.size, 9, none⟩ = some (.int .i64 x.h.K) := cellB hx6 9 _ rfl
        have z10 : w6.cell? ⟨w5.heap.size, 10, none⟩ = some (.int .i64 x.id) := cellB hx6 10 _ rfl
        have z11 : w6.cell? ⟨w5.heap.size, 11, none⟩ = some (.slice xa x.d.length xc) := cellB hx6 11 _ rfl
        have z12 : w6.cell? ⟨w5.heap.size, 12, none⟩ = some (.slice ya x.c.length yc) := cellB hx6 12 _ rfl
        clear hl1 hl2 hb5 hb6 hW6 hQ hcw hcut hpr htx hxi hB5 hF5
        go_wp2_with fail
        refine hP.mono ?_
        rintro e w7 ⟨rfl, hb7⟩
        have hF7 := hF6.trans (hb7.mono hF6.size)
        clear hP hb7
        go_wp2
        go_ret
        exact ⟨rfl, hF7⟩

end Go.Proofs.YtcpnbkgkknlocaaDoor
