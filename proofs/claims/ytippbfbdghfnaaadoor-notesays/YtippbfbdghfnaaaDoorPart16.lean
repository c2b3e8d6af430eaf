import Derived.Test.YtippbfbdghfnaaaDoorPart13
import Derived.Test.YtippbfbdghfnaaaDoorPart14
import Derived.Test.YtippbfbdghfnaaaDoorPart15
import Derived.Test.YtippbfbdghfnaaaDoorPart1
import Derived.ProofKit
import Derived.OpenShut
import Derived.ShutString
import Derived.ChangeOld
import Derived.Below
import Derived.Carry
import Derived.SizedLaws
import Derived.Deep.Slices
import Derived.Test.YtippbfbdghfnaaaDoorPart2
import Derived.Lib.SmallJoins
import Derived.Test.YtippbfbdghfnaaaDoorPart7
import Derived.Test.YtippbfbdghfnaaaDoorPart9
import Derived.Test.YtippbfbdghfnaaaDoorTie
import Derived.LaidMore
import Derived.Stop.Joined
import Derived.Stop.LaidErr
import Derived.Lay
import Derived.Lib.LaidTab
/-
  NoteSays' walk: a head, a record, a text are checked, printed, held against another one, read as the document says.
-/
namespace Go.Proofs.YtippbfbdghfnaaaDoor
open Go.RowKit
set_option linter.unusedVariables false
set_option linter.unusedSimpArgs false

/-- the record that Parse answers -/
def parsedL (s : List UInt8) : Rc := if pCode s = 0 then (readL s).getD rc0 else rc0

theorem ParseR.one {s : List UInt8} {e : Ending} {w' : World} (h : ParseR s e w') : ∃ (x : Rc) (xa : Option Addr) (xc : Nat) (ya : Option Addr) (yc : Nat), e = .returned (.tuple #[rcV x xa xc ya yc, .int .i64 (pCode s)]) ∧ x = parsedL s ∧ Lies w' xa (bs x.d) ∧ Lies w' ya (bs x.c) ∧ x.d.length ≤ maxLen ∧ x.c.length ≤ maxLen := by
  rcases h with ⟨h1, h2⟩ | ⟨h1, x, xa, xc, ya, yc, h2, h3, h4, h5, h6⟩
  · exact ⟨rc0, none, 0, none, 0, h2, by rw [parsedL, if_neg h1], Lies.nil _ _, Lies.nil _ _, by simp [rc0], by simp [rc0]⟩
  · have := code_short h3
    exact ⟨x, xa, xc, ya, yc, by rw [h1]; exact h4, by rw [parsedL, if_pos h1, h2]; rfl, h5, h6, by unfold maxLen; omega, by unfold maxLen; omega⟩

set_option maxHeartbeats 4000000 in
set_option maxRecDepth 8000 in
theorem W_noteSays (r q : Rc) (da : Option Addr) (dc : Nat) (ca : Option Addr) (cc : Nat) (ea : Option Addr) (ec : Nat) (fa : Option Addr) (fc : Nat) (s : ByteArray) (h : Hd) (w : World) (hir : r.ints) (hh : h.ok) (ld : r.d.length ≤ maxLen) (lc : r.c.length ≤ maxLen) (ld' : q.d.length ≤ maxLen) (lc' : q.c.length ≤ maxLen)
    (hd : Lies w da (bs r.d)) (hc : Lies w ca (bs r.c)) (hd' : Lies w ea (bs q.d)) (hc' : Lies w fa (bs q.c)) (hL : LaidN w) :
    Calls Tryd.prog 3 #[rcV r da dc ca cc, rcV q ea ec fa fc, .string s, h.val] w fun e w' => e = .returned (.bool true) ∧ Below w.heap.size w w' := by
  obtain ⟨W, hW⟩ : ∃ W, ((w.alloc (.cells #[.int .i64 r.k, .int .i64 r.p, .int .i64 r.n, .int .i64 r.y, .int .i64 r.h.F, .int .i64 r.h.Q, .int .i64 r.h.T, .int .i64 r.h.L, .int .i64 r.h.B, .int .i64 r.h.K, .int .i64 r.id, .slice da r.d.length dc, .slice ca r.c.length cc] 31)).alloc (.cells #[.int .i64 q.k, .int .i64 q.p, .int .i64 q.n, .int .i64 q.y, .int .i64 q.h.F, .int .i64 q.h.Q, .int .i64 q.h.T, .int .i64 q.h.L, .int .i64 q.h.B, .int .i64 q.h.K, .int .i64 q.id, .slice ea q.d.length ec, .slice fa q.c.length fc] 31)).alloc (.cells #[.int .i64 h.F, .int .i64 h.Q, .int .i64 h.T, .int .i64 h.L, .int .i64 h.B, .int .i64 h.K] 25) = W := ⟨_, rfl⟩
  have hBW : Below w.heap.size w W := by rw [← hW]; exact (((Below.refl _ _).alloc (Nat.le_refl _) _).alloc (by simp) _).alloc (by simp; omega) _
  have hb1 : W.heap[w.heap.size]? = some (.cells #[.int .i64 r.k, .int .i64 r.p, .int .i64 r.n, .int .i64 r.y, .int .i64 r.h.F, .int .i64 r.h.Q, .int .i64 r.h.T, .int .i64 r.h.L, .int .i64 r.h.B, .int .i64 r.h.K, .int .i64 r.id, .slice da r.d.length dc, .slice ca r.c.length cc] 31 (0, 0)) := by rw [← hW, heap_alloc_eq, if_neg (by simp; omega), heap_alloc_eq, if_neg (by simp), heap_alloc_eq, if_pos rfl]
  have hb2 : W.heap[w.heap.size + 1]? = some (.cells #[.int .i64 q.k, .int .i64 q.p, .int .i64 q.n, .int .i64 q.y, .int .i64 q.h.F, .int .i64 q.h.Q, .int .i64 q.h.T, .int .i64 q.h.L, .int .i64 q.h.B, .int .i64 q.h.K, .int .i64 q.id, .slice ea q.d.length ec, .slice fa q.c.length fc] 31 (0, 0)) := by rw [← hW, heap_alloc_eq, if_neg (by simp), heap_alloc_eq, if_pos (by simp)]
  have hb3 : W.heap[w.heap.size + 1 + 1]? = some (.cells #[.int .i64 h.F, .int .i64 h.Q, .int .i64 h.T, .int .i64 h.L, .int .i64 h.B, .int .i64 h.K] 25 (0, 0)) := by rw [← hW, heap_alloc_eq, if_pos (by simp)]
  replace hd := Lies.below hBW hd (Nat.le_refl _)
  replace hc := Lies.below hBW hc (Nat.le_refl _)
  replace hd' := Lies.below hBW hd' (Nat.le_refl _)
  replace hc' := Lies.below hBW hc' (Nat.le_refl _)
  have hLW := hL.below hBW
  have hP1 := print_any r da dc ca cc W hir ld hd hc hLW
  have hPT : ∀ w1, Below W.heap.size W w1 → Calls Tryd.prog 8 #[rcV r da dc ca cc] w1 fun e w' => e = .returned (.tuple #[.string ⟨r.printed.toArray⟩, .int .i64 r.code]) ∧ Below w1.heap.size w1 w' := fun w1 hb => recText_any r da dc ca cc w1 hir ld (hd.below hb (Nat.le_refl _)) (hc.below hb (Nat.le_refl _)) (hLW.below hb)
  have hC : ∀ w1, Calls Tryd.prog 12 #[rcV r da dc ca cc] w1 fun e w' => e = .returned (.int .i64 r.code) ∧ Below w1.heap.size w1 w' := fun w1 => noteCheck_any r da dc ca cc w1 hir ld
  have hS1 : ∀ w1, Below W.heap.size W w1 → Calls Tryd.prog 13 #[rcV r da dc ca cc, rcV q ea ec fa fc] w1 fun e w' => e = .returned (.bool (decide (r = q))) ∧ Below w1.heap.size w1 w' := fun w1 hb => same_any r q da dc ca cc ea ec fa fc w1 (hd.below hb (Nat.le_refl _)) (hc.below hb (Nat.le_refl _)) (hd'.below hb (Nat.le_refl _)) (hc'.below hb (Nat.le_refl _)) ld lc ld' lc'
  have hS2 : ∀ w1, Below W.heap.size W w1 → Calls Tryd.prog 14 #[rcV r da dc ca cc, rcV q ea ec fa fc] w1 fun e w' => e = .returned (.bool (decide (r = q))) ∧ Below w1.heap.size w1 w' := fun w1 hb => sameRec_any r q da dc ca cc ea ec fa fc w1 (hd.below hb (Nat.le_refl _)) (hc.below hb (Nat.le_refl _)) (hd'.below hb (Nat.le_refl _)) (hc'.below hb (Nat.le_refl _)) ld lc ld' lc'
  have hH1 : ∀ w1, Calls Tryd.prog 10 #[h.val] w1 fun e w' => e = .returned (.int .i64 (hdCode h)) ∧ Below w1.heap.size w1 w' := fun w1 => head_any h w1 hh
  have hH2 : ∀ w1, Calls Tryd.prog 11 #[h.val] w1 fun e w' => e = .returned (.int .i64 (hdCode h)) ∧ Below w1.heap.size w1 w' := fun w1 => checkHead_any h w1 hh
  have hln : ∀ w1, Below W.heap.size W w1 → Calls Tryd.prog 9 #[] w1 fun e w' => e = .returned (.bool true) ∧ Below w1.heap.size w1 w' := fun w1 hb => lined_any w1 (hLW.below hb)
  simp only [rcV, Hd.val] at hP1 hPT hC hS1 hS2 hH1 hH2 ⊢
  clear hd hc hd' hc' hL hir hh
  generalize hdCode h = zh at *
  generalize hza : r.code = za at *
  generalize (⟨r.printed.toArray⟩ : ByteArray) = TA at *
  generalize decide (r = q) = D at *
  have q0 : W.cell? ⟨w.heap.size, 0, none⟩ = some (.int .i64 r.k) := cellB hb1 0 _ rfl
  have q1 : W.cell? ⟨w.heap.size, 1, none⟩ = some (.int .i64 r.p) := cellB hb1 1 _ rfl
  have q2 : W.cell? ⟨w.heap.size, 2, none⟩ = some (.int .i64 r.n) := cellB hb1 2 _ rfl
  have q3 : W.cell? ⟨w.heap.size, 3, none⟩ = some (.int .i64 r.y) := cellB hb1 3 _ rfl
  have q4 : W.cell? ⟨w.heap.size, 4, none⟩ = some (.int .i64 r.h.F) := cellB hb1 4 _ rfl
  have q5 : W.cell? ⟨w.heap.size, 5, none⟩ = some (.int .i64 r.h.Q) := cellB hb1 5 _ rfl
  have q6 : W.cell? ⟨w.heap.size, 6, none⟩ = some (.int .i64 r.h.T) := cellB hb1 6 _ rfl
  have q7 : W.cell? ⟨w.heap.size, 7, none⟩ = some (.int .i64 r.h.L) := cellB hb1 7 _ rfl
  have q8 : W.cell? ⟨w.heap.size, 8, none⟩ = some (.int .i64 r.h.B) := cellB hb1 8 _ rfl
  have q9 : W.cell? ⟨w.heap.size, 9, none⟩ = some (.int .i64 r.h.K) := cellB hb1 9 _ rfl
  have q10 : W.cell? ⟨w.heap.size, 10, none⟩ = some (.int .i64 r.id) := cellB hb1 10 _ rfl
  have q11 : W.cell? ⟨w.heap.size, 11, none⟩ = some (.slice da r.d.length dc) := cellB hb1 11 _ rfl
  have q12 : W.cell? ⟨w.heap.size, 12, none⟩ = some (.slice ca r.c.length cc) := cellB hb1 12 _ rfl
  go_enter Tryd.func3, Tryd.ntmps3
  go_wp2_with fail
  refine hP1.mono ?_
  rintro e w1 ⟨rfl, hB1⟩
  clear hP1 hW q0 q1 q2 q3 q4 q5 q6 q7 q8 q9 q10 q11 q12
  go_wp2_with fail
  refine (parse_any s w1 (hLW.below hB1)).mono ?_
  rintro e w2 ⟨hB2, hR⟩
  obtain ⟨x, xa, xc, ya, yc, rfl, hx, hxd, hxc, lxd, lxc⟩ := hR.one
  have HX := Shut.mk hx
  have hBB := hB1.trans (hB2.mono hB1.size)
  clear hB1 hB2 hR hx
  generalize hzp : pCode s.data.toList = zp
  have HZP := Shut.mk hzp
  clear hzp
  simp only [rcV]
  go_upto_region 3 with fail
  generalize hW3 : w2.alloc (.cells #[.int .i64 x.k, .int .i64 x.p, .int .i64 x.n, .int .i64 x.y, .int .i64 x.h.F, .int .i64 x.h.Q, .int .i64 x.h.T, .int .i64 x.h.L, .int .i64 x.h.B, .int .i64 x.h.K, .int .i64 x.id, .slice xa x.d.length xc, .slice ya x.c.length yc] 31) = w3
  have hb3' : Below w2.heap.size w2 w3 := by rw [← hW3]; exact (Below.refl _ _).alloc (Nat.le_refl _) _
  have hx3 : w3.heap[w2.heap.size]? = some (.cells #[.int .i64 x.k, .int .i64 x.p, .int .i64 x.n, .int .i64 x.y, .int .i64 x.h.F, .int .i64 x.h.Q, .int .i64 x.h.T, .int .i64 x.h.L, .int .i64 x.h.B, .int .i64 x.h.K, .int .i64 x.id, .slice xa x.d.length xc, .slice ya x.c.length yc] 31 (0, 0)) := by rw [← hW3, heap_alloc_eq, if_pos rfl]
  have hB3 := hBB.trans (hb3'.mono hBB.size)
  replace hxd := hxd.below hb3' (Nat.le_refl _)
  replace hxc := hxc.below hb3' (Nat.le_refl _)
  have hk1 := blkB hb1 hB3
  clear hW3 hb3' hBB
  have q0 : w3.cell? ⟨w.heap.size, 0, none⟩ = some (.int .i64 r.k) := cellB hk1 0 _ rfl
  have q1 : w3.cell? ⟨w.heap.size, 1, none⟩ = some (.int .i64 r.p) := cellB hk1 1 _ rfl
  have q2 : w3.cell? ⟨w.heap.size, 2, none⟩ = some (.int .i64 r.n) := cellB hk1 2 _ rfl
  have q3 : w3.cell? ⟨w.heap.size, 3, none⟩ = some (.int .i64 r.y) := cellB hk1 3 _ rfl
  have q4 : w3.cell? ⟨w.heap.size, 4, none⟩ = some (.int .i64 r.h.F) := cellB hk1 4 _ rfl
  have q5 : w3.cell? ⟨w.heap.size, 5, none⟩ = some (.int .i64 r.h.Q) := cellB hk1 5 _ rfl
  have q6 : w3.cell? ⟨w.heap.size, 6, none⟩ = some (.int .i64 r.h.T) := cellB hk1 6 _ rfl
  have q7 : w3.cell? ⟨w.heap.size, 7, none⟩ = some (.int .i64 r.h.L) := cellB hk1 7 _ rfl
  have q8 : w3.cell? ⟨w.heap.size, 8, none⟩ = some (.int .i64 r.h.B) := cellB hk1 8 _ rfl
  have q9 : w3.cell? ⟨w.heap.size, 9, none⟩ = some (.int .i64 r.h.K) := cellB hk1 9 _ rfl
  have q10 : w3.cell? ⟨w.heap.size, 10, none⟩ = some (.int .i64 r.id) := cellB hk1 10 _ rfl
  have q11 : w3.cell? ⟨w.heap.size, 11, none⟩ = some (.slice da r.d.length dc) := cellB hk1 11 _ rfl
  have q12 : w3.cell? ⟨w.heap.size, 12, none⟩ = some (.slice ca r.c.length cc) := cellB hk1 12 _ rfl
  go_wp2_with fail
  refine (hPT w3 hB3).mono ?_
  rintro e w4 ⟨rfl, hb4⟩
  have hB4 := hB3.trans (hb4.mono hB3.size)
  have hx4 := blkB hx3 hb4
  replace hxd := hxd.below hb4 (Nat.le_refl _)
  replace hxc := hxc.below hb4 (Nat.le_refl _)
  have k1 := blkB hb1 hB4
  have k2 := blkB hb2 hB4
  have k3 := blkB hb3 hB4
  clear hPT hb4 hB3 hx3 hk1 q0 q1 q2 q3 q4 q5 q6 q7 q8 q9 q10 q11 q12
  have cLn : ∀ u : Above w4, Calls Tryd.prog 9 #[] u.w fun e w' => e = .returned (.bool true) ∧ Below u.w.heap.size u.w w' := fun u => hln u.w (hB4.trans (u.below.mono hB4.size))
  have cS1 := fun u : Above w4 => hS1 u.w (hB4.trans (u.below.mono hB4.size))
  have cS2 := fun u : Above w4 => hS2 u.w (hB4.trans (u.below.mono hB4.size))
  have cC := fun u : Above w4 => hC u.w
  have cH1 := fun u : Above w4 => hH1 u.w
  have cH2 := fun u : Above w4 => hH2 u.w
  clear hln hS1 hS2 hC hH1 hH2
  have q0 : ∀ u : Above w4, u.w.cell? ⟨w.heap.size, 0, none⟩ = some (.int .i64 r.k) := fun u => Above.cell (cellB k1 0 _ rfl) u
  have q1 : ∀ u : Above w4, u.w.cell? ⟨w.heap.size, 1, none⟩ = some (.int .i64 r.p) := fun u => Above.cell (cellB k1 1 _ rfl) u
  have q2 : ∀ u : Above w4, u.w.cell? ⟨w.heap.size, 2, none⟩ = some (.int .i64 r.n) := fun u => Above.cell (cellB k1 2 _ rfl) u
  have q3 : ∀ u : Above w4, u.w.cell? ⟨w.heap.size, 3, none⟩ = some (.int .i64 r.y) := fun u => Above.cell (cellB k1 3 _ rfl) u
  have q4 : ∀ u : Above w4, u.w.cell? ⟨w.heap.size, 4, none⟩ = some (.int .i64 r.h.F) := fun u => Above.cell (cellB k1 4 _ rfl) u
  have q5 : ∀ u : Above w4, u.w.cell? ⟨w.heap.size, 5, none⟩ = some (.int .i64 r.h.Q) := fun u => Above.cell (cellB k1 5 _ rfl) u
  have q6 : ∀ u : Above w4, u.w.cell? ⟨w.heap.size, 6, none⟩ = some (.int .i64 r.h.T) := fun u => Above.cell (cellB k1 6 _ rfl) u
  have q7 : ∀ u : Above w4, u.w.cell? ⟨w.heap.size, 7, none⟩ = some (.int .i64 r.h.L) := fun u => Above.cell (cellB k1 7 _ rfl) u
  have q8 : ∀ u : Above w4, u.w.cell? ⟨w.heap.size, 8, none⟩ = some (.int .i64 r.h.B) := fun u => Above.cell (cellB k1 8 _ rfl) u
  have q9 : ∀ u : Above w4, u.w.cell? ⟨w.heap.size, 9, none⟩ = some (.int .i64 r.h.K) := fun u => Above.cell (cellB k1 9 _ rfl) u
  have q10 : ∀ u : Above w4, u.w.cell? ⟨w.heap.size, 10, none⟩ = some (.int .i64 r.id) := fun u => Above.cell (cellB k1 10 _ rfl) u
  have q11 : ∀ u : Above w4, u.w.cell? ⟨w.heap.size, 11, none⟩ = some (.slice da r.d.length dc) := fun u => Above.cell (cellB k1 11 _ rfl) u
  have q12 : ∀ u : Above w4, u.w.cell? ⟨w.heap.size, 12, none⟩ = some (.slice ca r.c.length cc) := fun u => Above.cell (cellB k1 12 _ rfl) u
  have p0 : ∀ u : Above w4, u.w.cell? ⟨w.heap.size + 1, 0, none⟩ = some (.int .i64 q.k) := fun u => Above.cell (cellB k2 0 _ rfl) u
  have p1 : ∀ u : Above w4, u.w.cell? ⟨w.heap.size + 1, 1, none⟩ = some (.int .i64 q.p) := fun u => Above.cell (cellB k2 1 _ rfl) u
  have p2 : ∀ u : Above w4, u.w.cell? ⟨w.heap.size + 1, 2, none⟩ = some (.int .i64 q.n) := fun u => Above.cell (cellB k2 2 _ rfl) u
  have p3 : ∀ u : Above w4, u.w.cell? ⟨w.heap.size + 1, 3, none⟩ = some (.int .i64 q.y) := fun u => Above.cell (cellB k2 3 _ rfl) u
  have p4 : ∀ u : Above w4, u.w.cell? ⟨w.heap.size + 1, 4, none⟩ = some (.int .i64 q.h.F) := fun u => Above.cell (cellB k2 4 _ rfl) u
  have p5 : ∀ u : Above w4, u.w.cell? ⟨w.heap.size + 1, 5, none⟩ = some (.int .i64 q.h.Q) := fun u => Above.cell (cellB k2 5 _ rfl) u
  have p6 : ∀ u : Above w4, u.w.cell? ⟨w.heap.size + 1, 6, none⟩ = some (.int .i64 q.h.T) := fun u => Above.cell (cellB k2 6 _ rfl) u
  have p7 : ∀ u : Above w4, u.w.cell? ⟨w.heap.size + 1, 7, none⟩ = some (.int .i64 q.h.L) := fun u => Above.cell (cellB k2 7 _ rfl) u
  have p8 : ∀ u : Above w4, u.w.cell? ⟨w.heap.size + 1, 8, none⟩ = some (.int .i64 q.h.B) := fun u => Above.cell (cellB k2 8 _ rfl) u
  have p9 : ∀ u : Above w4, u.w.cell? ⟨w.heap.size + 1, 9, none⟩ = some (.int .i64 q.h.K) := fun u => Above.cell (cellB k2 9 _ rfl) u
  have p10 : ∀ u : Above w4, u.w.cell? ⟨w.heap.size + 1, 10, none⟩ = some (.int .i64 q.id) := fun u => Above.cell (cellB k2 10 _ rfl) u
  have p11 : ∀ u : Above w4, u.w.cell? ⟨w.heap.size + 1, 11, none⟩ = some (.slice ea q.d.length ec) := fun u => Above.cell (cellB k2 11 _ rfl) u
  have p12 : ∀ u : Above w4, u.w.cell? ⟨w.heap.size + 1, 12, none⟩ = some (.slice fa q.c.length fc) := fun u => Above.cell (cellB k2 12 _ rfl) u
  have c0 : ∀ u : Above w4, u.w.cell? ⟨w.heap.size + 1 + 1, 0, none⟩ = some (.int .i64 h.F) := fun u => Above.cell (cellB k3 0 _ rfl) u
  have c1 : ∀ u : Above w4, u.w.cell? ⟨w.heap.size + 1 + 1, 1, none⟩ = some (.int .i64 h.Q) := fun u => Above.cell (cellB k3 1 _ rfl) u
  have c2 : ∀ u : Above w4, u.w.cell? ⟨w.heap.size + 1 + 1, 2, none⟩ = some (.int .i64 h.T) := fun u => Above.cell (cellB k3 2 _ rfl) u
  have c3 : ∀ u : Above w4, u.w.cell? ⟨w.heap.size + 1 + 1, 3, none⟩ = some (.int .i64 h.L) := fun u => Above.cell (cellB k3 3 _ rfl) u
  have c4 : ∀ u : Above w4, u.w.cell? ⟨w.heap.size + 1 + 1, 4, none⟩ = some (.int .i64 h.B) := fun u => Above.cell (cellB k3 4 _ rfl) u
  have c5 : ∀ u : Above w4, u.w.cell? ⟨w.heap.size + 1 + 1, 5, none⟩ = some (.int .i64 h.K) := fun u => Above.cell (cellB k3 5 _ rfl) u
  go_upto_region 4 with fail
  refine wp_region_above (by kernel_rfl) (by kernel_rfl) ?_
  iterate 34 (go_big_quiet_step (first | rfl | (go_at_call 9; exact Calls.above (cLn _)) | (go_at_call 10; exact Calls.above (cH1 _)) | (go_at_call 11; exact Calls.above (cH2 _)) | (go_at_call 12; exact Calls.above (cC _)) | (go_at_call 13; exact Calls.above (cS1 _)) | (go_at_call 14; exact Calls.above (cS2 _))))
  refine wpQuiet_nil ?_
  rintro _ ⟨u, rfl⟩
  have hB5 := hB4.trans (u.below.mono hB4.size)
  have hx5 := blkB hx4 u.below
  replace hxd := hxd.below u.below (Nat.le_refl _)
  replace hxc := hxc.below u.below (Nat.le_refl _)
  clear cLn cS1 cS2 cC cH1 cH2 k1 k2 k3 hx4 hB4 q0 q1 q2 q3 q4 q5 q6 q7 q8 q9 q10 q11 q12 p0 p1 p2 p3 p4 p5 p6 p7 p8 p9 p10 p11 p12 c0 c1 c2 c3 c4 c5
  generalize u.w = w5 at *
  have z0 : w5.cell? ⟨w2.heap.size, 0, none⟩ = some (.int .i64 x.k) := cellB hx5 0 _ rfl
  have z1 : w5.cell? ⟨w2.heap.size, 1, none⟩ = some (.int .i64 x.p) := cellB hx5 1 _ rfl
  have z2 : w5.cell? ⟨w2.heap.size, 2, none⟩ = some (.int .i64 x.n) := cellB hx5 2 _ rfl
  have z3 : w5.cell? ⟨w2.heap.size, 3, none⟩ = some (.int .i64 x.y) := cellB hx5 3 _ rfl
  have z4 : w5.cell? ⟨w2.heap.size, 4, none⟩ = some (.int .i64 x.h.F) := cellB hx5 4 _ rfl
  have z5 : w5.cell? ⟨w2.heap.size, 5, none⟩ = some (.int .i64 x.h.Q) := cellB hx5 5 _ rfl
  have z6 : w5.cell? ⟨w2.heap.size, 6, none⟩ = some (.int .i64 x.h.T) := cellB hx5 6 _ rfl
  have z7 : w5.cell? ⟨w2.heap.size, 7, none⟩ = some (.int .i64 x.h.L) := cellB hx5 7 _ rfl
  have z8 : w5.cell? ⟨w2.heap.size, 8, none⟩ = some (.int .i64 x.h.B) := cellB hx5 8 _ rfl
  have z9 : w5.cell? ⟨w2.heap.size, 9, none⟩ = some (.int .i64 x.h.K) := cellB hx5 9 _ rfl
  have z10 : w5.cell? ⟨w2.heap.size, 10, none⟩ = some (.int .i64 x.id) := cellB hx5 10 _ rfl
  have z11 : w5.cell? ⟨w2.heap.size, 11, none⟩ = some (.slice xa x.d.length xc) := cellB hx5 11 _ rfl
  have z12 : w5.cell? ⟨w2.heap.size, 12, none⟩ = some (.slice ya x.c.length yc) := cellB hx5 12 _ rfl
  by_cases hlen : 60000 < s.size
  · have hl2 : (s.size : Int) > 60000 := by omega
    obtain rfl : zp = 2 := by rw [← HZP.out, pCode, if_pos (by rw [sizeB]; exact hlen)]
    have hx0 : x = rc0 := by rw [HX.out, parsedL, HZP.out]; rfl
    have hSR := sameRec_any x rc0 xa xc ya yc none 0 none 0 w5 hxd hxc (Lies.nil _ _) (Lies.nil _ _) lxd lxc (by simp [rc0]) (by simp [rc0])
    rw [decide_eq_true hx0] at hSR
    simp only [rcV, rc0, List.length_nil] at hSR
    clear hx0
    go_wp2_with fail
    refine hSR.mono ?_
    rintro e w6 ⟨rfl, hb6⟩
    have hF6 := hBW.trans ((hB5.trans (hb6.mono hB5.size)).mono hBW.size)
    go_wp2
    go_ret
    exact ⟨rfl, hF6⟩
  · have hl2 : ¬ (s.size : Int) > 60000 := by omega
    have hRR := recRead_any s w5 (by omega) (hLW.below hB5)
    go_wp2_with fail
    refine hRR.mono ?_
    rintro e w6 ⟨hb6, hR⟩
    obtain ⟨y, ua, uc, va, vc, rfl, hy, hyd, hyc, lyd, lyc⟩ := hR.one
    have HXY : Shut (x = y) := ⟨by rw [HX.out, hy]⟩
    clear hy
    rw [HZP.out]
    have hB6 := hB5.trans (hb6.mono hB5.size)
    have hx6 := blkB hx5 hb6
    replace hxd := hxd.below hb6 (Nat.le_refl _)
    replace hxc := hxc.below hb6 (Nat.le_refl _)
    clear hRR hR hb6 hx5 z0 z1 z2 z3 z4 z5 z6 z7 z8 z9 z10 z11 z12
    simp only [rcV]
    go_upto_region 9 with fail
    generalize hW7 : w6.alloc (.cells #[.int .i64 y.k, .int .i64 y.p, .int .i64 y.n, .int .i64 y.y, .int .i64 y.h.F, .int .i64 y.h.Q, .int .i64 y.h.T, .int .i64 y.h.L, .int .i64 y.h.B, .int .i64 y.h.K, .int .i64 y.id, .slice ua y.d.length uc, .slice va y.c.length vc] 31) = w7
    have hb7 : Below w6.heap.size w6 w7 := by rw [← hW7]; exact (Below.refl _ _).alloc (Nat.le_refl _) _
    have hy7 : w7.heap[w6.heap.size]? = some (.cells #[.int .i64 y.k, .int .i64 y.p, .int .i64 y.n, .int .i64 y.y, .int .i64 y.h.F, .int .i64 y.h.Q, .int .i64 y.h.T, .int .i64 y.h.L, .int .i64 y.h.B, .int .i64 y.h.K, .int .i64 y.id, .slice ua y.d.length uc, .slice va y.c.length vc] 31 (0, 0)) := by rw [← hW7, heap_alloc_eq, if_pos rfl]
    have hx7 := blkB hx6 hb7
    have hB7 := hB6.trans (hb7.mono hB6.size)
    have hSR := sameRec_any x y xa xc ya yc ua uc va vc w7 (hxd.below hb7 (Nat.le_refl _)) (hxc.below hb7 (Nat.le_refl _)) (hyd.below hb7 (Nat.le_refl _)) (hyc.below hb7 (Nat.le_refl _)) lxd lxc lyd lyc
    rw [decide_eq_true HXY.out] at hSR
    simp only [rcV] at hSR
    clear hxd hxc hyd hyc hb7 hW7
    have z0 : w7.cell? ⟨w2.heap.size, 0, none⟩ = some (.int .i64 x.k) := cellB hx7 0 _ rfl
    have z1 : w7.cell? ⟨w2.heap.size, 1, none⟩ = some (.int .i64 x.p) := cellB hx7 1 _ rfl
    have z2 : w7.cell? ⟨w2.heap.size, 2, none⟩ = some (.int .i64 x.n) := cellB hx7 2 _ rfl
    have z3 : w7.cell? ⟨w2.heap.size, 3, none⟩ = some (.int .i64 x.y) := cellB hx7 3 _ rfl
    have z4 : w7.cell? ⟨w2.heap.size, 4, none⟩ = some (.int .i64 x.h.F) := cellB hx7 4 _ rfl
    have z5 : w7.cell? ⟨w2.heap.size, 5, none⟩ = some (.int .i64 x.h.Q) := cellB hx7 5 _ rfl
    have z6 : w7.cell? ⟨w2.heap.size, 6, none⟩ = some (.int .i64 x.h.T) := cellB hx7 6 _ rfl
    have z7 : w7.cell? ⟨w2.heap.size, 7, none⟩ = some (.int .i64 x.h.L) := cellB hx7 7 _ rfl
    have z8 : w7.cell? ⟨w2.heap.size, 8, none⟩ = some (.int .i64 x.h.B) := cellB hx7 8 _ rfl
    have z9 : w7.cell? ⟨w2.heap.size, 9, none⟩ = some (.int .i64 x.h.K) := cellB hx7 9 _ rfl
    have z10 : w7.cell? ⟨w2.heap.size, 10, none⟩ = some (.int .i64 x.id) := cellB hx7 10 _ rfl
    have z11 : w7.cell? ⟨w2.heap.size, 11, none⟩ = some (.slice xa x.d.length xc) := cellB hx7 11 _ rfl
    have z12 : w7.cell? ⟨w2.heap.size, 12, none⟩ = some (.slice ya x.c.length yc) := cellB hx7 12 _ rfl
    have p0 : w7.cell? ⟨w6.heap.size, 0, none⟩ = some (.int .i64 y.k) := cellB hy7 0 _ rfl
    have p1 : w7.cell? ⟨w6.heap.size, 1, none⟩ = some (.int .i64 y.p) := cellB hy7 1 _ rfl
    have p2 : w7.cell? ⟨w6.heap.size, 2, none⟩ = some (.int .i64 y.n) := cellB hy7 2 _ rfl
    have p3 : w7.cell? ⟨w6.heap.size, 3, none⟩ = some (.int .i64 y.y) := cellB hy7 3 _ rfl
    have p4 : w7.cell? ⟨w6.heap.size, 4, none⟩ = some (.int .i64 y.h.F) := cellB hy7 4 _ rfl
    have p5 : w7.cell? ⟨w6.heap.size, 5, none⟩ = some (.int .i64 y.h.Q) := cellB hy7 5 _ rfl
    have p6 : w7.cell? ⟨w6.heap.size, 6, none⟩ = some (.int .i64 y.h.T) := cellB hy7 6 _ rfl
    have p7 : w7.cell? ⟨w6.heap.size, 7, none⟩ = some (.int .i64 y.h.L) := cellB hy7 7 _ rfl
    have p8 : w7.cell? ⟨w6.heap.size, 8, none⟩ = some (.int .i64 y.h.B) := cellB hy7 8 _ rfl
    have p9 : w7.cell? ⟨w6.heap.size, 9, none⟩ = some (.int .i64 y.h.K) := cellB hy7 9 _ rfl
    have p10 : w7.cell? ⟨w6.heap.size, 10, none⟩ = some (.int .i64 y.id) := cellB hy7 10 _ rfl
    have p11 : w7.cell? ⟨w6.heap.size, 11, none⟩ = some (.slice ua y.d.length uc) := cellB hy7 11 _ rfl
    have p12 : w7.cell? ⟨w6.heap.size, 12, none⟩ = some (.slice va y.c.length vc) := cellB hy7 12 _ rfl
    go_wp2_with fail
    refine hSR.mono ?_
    rintro e w8 ⟨rfl, hb8⟩
    have hF8 := hBW.trans ((hB7.trans (hb8.mono hB7.size)).mono hBW.size)
    go_wp2
    go_ret
    exact ⟨rfl, hF8⟩

end Go.Proofs.YtippbfbdghfnaaaDoor

/-
  What came in, opened: byte slices and slices of byte slices, whatever their readings are. Nothing of any program.
-/
namespace Go.Proofs.YtippbfbdghfnaaaDoor
open Go.ChangeShapes Go.WideShapes Go.ChangeAt Go.RowKit
set_option linter.unusedVariables false
set_option linter.unusedSimpArgs false

section
variable {H : Type} {enc : TypeId × Value → H} {P : Program} {w : World} {held : Bool}

theorem u8_of_wf {n : Int} (h : (Lit.int .u8 n).wf = true) : 0 ≤ n ∧ n < 256 := by
  have : 0 ≤ n ∧ n ≤ 255 := by simpa [Lit.wf, IntKind.min, IntKind.max, IntKind.signed, IntKind.bits] using h
  omega

/-- an address of cells has no spot of its own -/
theorem lies_addr {a : Addr} {k : Nat} {u u0 : Value} (h0 : w.cell? (a.add 0) = some u0) (hk : w.cell? (a.add k) = some u) : ∃ b off, some a = some (⟨b, off, none⟩ : Addr) ∧ w.cell? ⟨b, off + k, none⟩ = some u := by
  obtain ⟨b, off, spot⟩ := a
  have hspot : spot = none := by simpa [Addr.add] using World.cell?_spot h0
  subst hspot
  exact ⟨b, off, rfl, by simpa [Addr.add_lit] using hk⟩

theorem open_bytes {t e : TypeId} {fuel : Nat} {v : Value} {x : DataW H × List MemPlace} (ht : P.underlying t = some (.slice e)) (he : P.underlying e = some (.int .u8)) (hc : P.cellsOf e = 1)
    (h : DataW.trod enc P w 0 (fun _ => true) held fuel t [v] = some x) : ∃ a cap l, v = .slice a l.length cap ∧ Lies w a (bs l) ∧ l.length ≤ maxLen := by
  rcases open_ints ht he hc h with ⟨hcs, _⟩ | ⟨a, len, cap, zs, hcs, _, hl, hm, hz, _, hcell, hwz⟩
  · simp at hcs
    subst hcs
    exact ⟨none, 0, [], rfl, Lies.nil _ _, by simp⟩
  · simp at hcs hz
    subst hcs
    refine ⟨some a, cap, (zs.take len).map fun z => UInt8.ofNat z.toNat, ?_, ?_, ?_⟩
    · simp; omega
    · intro k u hu
      have hk : k < len := by
        obtain ⟨hk, _⟩ := List.getElem?_eq_some_iff.1 hu
        simp [bs] at hk
        omega
      have hkz : k < zs.length := by omega
      have hcl := hcell k hkz
      have hwf := u8_of_wf (hwz zs[k] (by simp))
      have hu' : u = .int .u8 (zs[k]) := by
        simp [bs, hk, hkz] at hu
        rw [← hu]
        congr 1
        omega
      subst hu'
      have e2 : zs.getD k 0 = zs[k] := by simp [List.getD, hkz]
      rw [e2] at hcl
      exact lies_addr (hcell 0 (by omega)) hcl
    · simp; omega

theorem open_blocks {t e e8 : TypeId} {fuel : Nat} {v : Value} {d : DataW H} {ps : List MemPlace} (ht : P.underlying t = some (.slice e)) (hte : P.underlying e = some (.slice e8)) (he : P.underlying e8 = some (.int .u8)) (hc : P.cellsOf e = 1) (hc8 : P.cellsOf e8 = 1)
    (h : DataW.trod enc P w 0 (fun _ => true) held fuel t [v] = some (d, ps)) :
    ∃ a cap bl, v = .slice a bl.length cap ∧ Lies w a (bl.map Blk.val) ∧ AllIn w bl ∧ bl.length ≤ maxLen ∧ ((d = .nil ∧ bl = []) ∨ ∃ elems sp, d = .slice elems sp ∧ elems.length = bl.length) := by
  rcases Go.Deep.open_slice1 ht hc h with ⟨hcs, hx⟩ | ⟨a, len, cap, m, n, V, D, Pl, hcs, _, hl, hm, hmm, hx, hcell⟩
  · simp at hcs hx
    subst hcs
    exact ⟨none, 0, [], rfl, Lies.nil _ _, (fun b hb => by simp at hb), by simp, .inl ⟨hx.1, rfl⟩⟩
  · simp at hcs hx hmm
    subst hcs hmm
    have hb : ∀ i, i < m → ∃ b : Blk, V i = b.val ∧ Lies w b.a (bs b.l) ∧ b.l.length ≤ maxLen := fun i hi => by
      obtain ⟨a', cap', l, e1, e2, e3⟩ := open_bytes hte he hc8 (hcell i hi).2
      exact ⟨⟨a', cap', l⟩, e1, e2, e3⟩
    have : Inhabited Blk := ⟨⟨none, 0, []⟩⟩
    obtain ⟨B, hB⟩ := Go.Deep.choose_lt hb
    refine ⟨some a, m, (List.range len).map B, by simp, ?_, ?_, by simp; omega, .inr ⟨_, _, hx.1, by simp⟩⟩
    · intro k u hu
      have hk : k < len := by
        obtain ⟨hk, _⟩ := List.getElem?_eq_some_iff.1 hu
        simpa using hk
      have hu' : u = V k := by
        simp [hk] at hu
        rw [← hu, (hB k (by omega)).1]
      subst hu'
      exact lies_addr (hcell 0 (by omega)).1 (hcell k (by omega)).1
    · intro b hb
      obtain ⟨i, hi, rfl⟩ := List.mem_map.1 hb
      exact (hB i (by simp at hi; omega)).2
end
end Go.Proofs.YtippbfbdghfnaaaDoor

/-
  What came in, opened, with what it has room for: byte slices, slices of byte slices, a struct of two ints, whatever their readings are. Nothing of any program.
-/
namespace Go.Proofs.YtippbfbdghfnaaaDoor
open Go.ChangeShapes Go.WideShapes Go.ChangeAt Go.RowKit
set_option linter.unusedVariables false
set_option linter.unusedSimpArgs false

section
variable {H : Type} {enc : TypeId × Value → H} {P : Program} {w : World} {held : Bool}

/-- how many elements a reading has -/
def dlen : DataW H → Nat
  | .slice el _ => el.length
  | _ => 0

theorem i64_of_wf {n : Int} (h : (Lit.int .i64 n).wf = true) : I64 n := by
  have : -9223372036854775808 ≤ n ∧ n ≤ 9223372036854775807 := by simpa [Lit.wf, IntKind.min, IntKind.max, IntKind.signed, IntKind.bits] using h
  exact this

theorem open_bytes2 {t e : TypeId} {fuel : Nat} {v : Value} {x : DataW H × List MemPlace} (ht : P.underlying t = some (.slice e)) (he : P.underlying e = some (.int .u8)) (hc : P.cellsOf e = 1)
    (h : DataW.trod enc P w 0 (fun _ => true) held fuel t [v] = some x) : ∃ a cap l, v = .slice a l.length cap ∧ Lies w a (bs l) ∧ l.length ≤ maxLen ∧ l.length ≤ cap ∧ dlen x.1 = l.length := by
  rcases open_ints ht he hc h with ⟨hcs, rfl⟩ | ⟨a, len, cap, zs, hcs, _, hl, hm, hz, rfl, hcell, hwz⟩
  · simp at hcs
    subst hcs
    exact ⟨none, 0, [], rfl, Lies.nil _ _, by simp, by simp, rfl⟩
  · simp at hcs hz
    subst hcs
    refine ⟨some a, cap, (zs.take len).map fun z => UInt8.ofNat z.toNat, ?_, ?_, ?_, ?_, ?_⟩
    · simp; omega
    · intro k u hu
      have hk : k < len := by
        obtain ⟨hk, _⟩ := List.getElem?_eq_some_iff.1 hu
        simp [bs] at hk
        omega
      have hkz : k < zs.length := by omega
      have hcl := hcell k hkz
      have hwf := u8_of_wf (hwz zs[k] (by simp))
      have hu' : u = .int .u8 (zs[k]) := by
        simp [bs, hk, hkz] at hu
        rw [← hu]
        congr 1
        omega
      subst hu'
      have e2 : zs.getD k 0 = zs[k] := by simp [List.getD, hkz]
      rw [e2] at hcl
      exact lies_addr (hcell 0 (by omega)) hcl
    · simp; omega
    · simp; omega
    · simp [dlen, lits]

theorem open_blocks2 {t e e8 : TypeId} {fuel : Nat} {v : Value} {d : DataW H} {ps : List MemPlace} (ht : P.underlying t = some (.slice e)) (hte : P.underlying e = some (.slice e8)) (he : P.underlying e8 = some (.int .u8)) (hc : P.cellsOf e = 1) (hc8 : P.cellsOf e8 = 1)
    (h : DataW.trod enc P w 0 (fun _ => true) held fuel t [v] = some (d, ps)) :
    ∃ a cap bl, v = .slice a bl.length cap ∧ Lies w a (bl.map Blk.val) ∧ AllIn w bl ∧ bl.length ≤ maxLen ∧ Caps bl ∧ ((d = .nil ∧ bl = []) ∨ ∃ elems sp, d = .slice elems sp ∧ elems.map dlen = bl.map fun b => b.l.length) := by
  rcases Go.Deep.open_slice1 ht hc h with ⟨hcs, hx⟩ | ⟨a, len, cap, m, n, V, D, Pl, hcs, _, hl, hm, hmm, hx, hcell⟩
  · simp at hcs hx
    subst hcs
    exact ⟨none, 0, [], rfl, Lies.nil _ _, (fun b hb => by simp at hb), by simp, (fun b hb => by simp at hb), .inl ⟨hx.1, rfl⟩⟩
  · simp at hcs hx hmm
    subst hcs hmm
    have hb : ∀ i, i < m → ∃ b : Blk, V i = b.val ∧ Lies w b.a (bs b.l) ∧ b.l.length ≤ maxLen ∧ b.l.length ≤ b.cap ∧ dlen (D i) = b.l.length := fun i hi => by
      obtain ⟨a', cap', l, e1, e2, e3, e4, e5⟩ := open_bytes2 hte he hc8 (hcell i hi).2
      exact ⟨⟨a', cap', l⟩, e1, e2, e3, e4, e5⟩
    have : Inhabited Blk := ⟨⟨none, 0, []⟩⟩
    obtain ⟨B, hB⟩ := Go.Deep.choose_lt hb
    refine ⟨some a, m, (List.range len).map B, by simp, ?_, ?_, by simp; omega, ?_, .inr ⟨_, _, hx.1, ?_⟩⟩
    · intro k u hu
      have hk : k < len := by
        obtain ⟨hk, _⟩ := List.getElem?_eq_some_iff.1 hu
        simpa using hk
      have hu' : u = V k := by
        simp [hk] at hu
        rw [← hu, (hB k (by omega)).1]
      subst hu'
      exact lies_addr (hcell 0 (by omega)).1 (hcell k (by omega)).1
    · intro b hb
      obtain ⟨i, hi, rfl⟩ := List.mem_map.1 hb
      have := hB i (by simp at hi; omega)
      exact ⟨this.2.1, this.2.2.1⟩
    · intro b hb
      obtain ⟨i, hi, rfl⟩ := List.mem_map.1 hb
      exact (hB i (by simp at hi; omega)).2.2.2.1
    · rw [List.map_map, List.map_map]
      apply List.map_congr_left
      intro i hi
      exact (hB i (by simp at hi; omega)).2.2.2.2

theorem open_plan {r : Reach} {b0 : Nat} {t : TypeId} {f0 f1 : Field} {v : Value} {d : DataW H} {p : List MemPlace} (hs : P.underlying t = some (.struct #[f0, f1])) (hone : Go.Deep.oneCellFields P #[f0, f1] = true) (hC : P.cellsOf t = 2)
    (h0 : P.underlying f0.type = some (.int .i64)) (h1 : P.underlying f1.type = some (.int .i64))
    (hv : Value.okWide P w r b0 t v) (h : DataW.Trod enc P w 0 (fun _ => true) held t v d p) : ∃ B K : Int, v = .agg #[.int .i64 B, .int .i64 K] ∧ I64 B ∧ I64 K := by
  obtain ⟨c0, c1, y0, y1, m, rfl, rfl, rfl, hy0, hy1⟩ := Go.Joins.open_agg2 hs hone hC hv h
  obtain ⟨a, e0, rfl, wa⟩ := DataW.trod_int h0 hy0
  obtain ⟨b, e1, rfl, wb⟩ := DataW.trod_int h1 hy1
  simp at e0 e1
  subst e0 e1
  exact ⟨a, b, rfl, i64_of_wf wa, i64_of_wf wb⟩
end
end Go.Proofs.YtippbfbdghfnaaaDoor

/-
  A symbol that came in, opened: an int and a byte slice. Nothing of any program.
-/
namespace Go.Proofs.YtippbfbdghfnaaaDoor
open Go.ChangeShapes Go.WideShapes Go.ChangeAt Go.RowKit
set_option linter.unusedVariables false

section
variable {H : Type} {enc : TypeId × Value → H} {P : Program} {w : World} {held : Bool}

theorem open_symbol {r : Reach} {b0 : Nat} {t e8 : TypeId} {f0 f1 : Field} {v : Value} {d : DataW H} {p : List MemPlace} (hs : P.underlying t = some (.struct #[f0, f1])) (hone : Go.Deep.oneCellFields P #[f0, f1] = true) (hC : P.cellsOf t = 2)
    (h0 : P.underlying f0.type = some (.int .i64)) (h1 : P.underlying f1.type = some (.slice e8)) (he : P.underlying e8 = some (.int .u8)) (hc8 : P.cellsOf e8 = 1)
    (hv : Value.okWide P w r b0 t v) (h : DataW.Trod enc P w 0 (fun _ => true) held t v d p) : ∃ (id : Int) (a : Option Addr) (cap : Nat) (l : List UInt8), v = .agg #[.int .i64 id, .slice a l.length cap] ∧ I64 id ∧ Lies w a (bs l) ∧ l.length ≤ maxLen ∧ l.length ≤ cap := by
  obtain ⟨c0, c1, y0, y1, m, rfl, rfl, rfl, hy0, hy1⟩ := Go.Joins.open_agg2 hs hone hC hv h
  obtain ⟨a, e0, rfl, wa⟩ := DataW.trod_int h0 hy0
  obtain ⟨a', cap, l, rfl, h2, h3, h4, _⟩ := open_bytes2 h1 he hc8 hy1
  simp at e0
  subst e0
  exact ⟨a, a', cap, l, rfl, i64_of_wf wa, h2, h3, h4⟩
end
end Go.Proofs.YtippbfbdghfnaaaDoor

/-
  A record that came in, opened.
-/
namespace Go.Proofs.YtippbfbdghfnaaaDoor
open Go.ChangeShapes Go.WideShapes Go.ChangeAt Go.RowKit
set_option linter.unusedVariables false
set_option linter.unusedSimpArgs false

theorem array13 {α : Type} {cs : Array α} (h : cs.size = 13) : ∃ c0 c1 c2 c3 c4 c5 c6 c7 c8 c9 c10 c11 c12, cs = #[c0, c1, c2, c3, c4, c5, c6, c7, c8, c9, c10, c11, c12] := by
  obtain ⟨l⟩ := cs
  match l, h with
  | [c0, c1, c2, c3, c4, c5, c6, c7, c8, c9, c10, c11, c12], _ => exact ⟨c0, c1, c2, c3, c4, c5, c6, c7, c8, c9, c10, c11, c12, rfl⟩

theorem cInt1 : Tryd.prog.cellsOf 3 = 1 := by kernel_rfl
theorem cBlk1 : Tryd.prog.cellsOf 27 = 1 := by kernel_rfl
theorem cByt1 : Tryd.prog.cellsOf 26 = 1 := by kernel_rfl
theorem cU81 : Tryd.prog.cellsOf 5 = 1 := by kernel_rfl
theorem cPlan2 : Tryd.prog.cellsOf 23 = 2 := by kernel_rfl
theorem cSym2 : Tryd.prog.cellsOf 29 = 2 := by kernel_rfl
theorem cHead6 : Tryd.prog.cellsOf 25 = 6 := by kernel_rfl
theorem cRec13 : Tryd.prog.cellsOf 31 = 13 := by kernel_rfl

section
variable {H : Type} {enc : TypeId × Value → H} {w : World} {held : Bool}

theorem one_int {n : Nat} {c : Value} {y : DataW H × List MemPlace} (h : DataW.trod enc Tryd.prog w 0 (fun _ => true) held n 3 [c] = some y) : ∃ a : Int, c = .int .i64 a ∧ I64 a := by
  obtain ⟨a, e, _, wa⟩ := DataW.trod_int Tryd.underlying3 h
  simp at e
  exact ⟨a, e, i64_of_wf wa⟩

set_option maxRecDepth 8000 in
theorem open_rec {r : Reach} {b0 : Nat} {v : Value} {d : DataW H} {p : List MemPlace} (hv : Value.okWide Tryd.prog w r b0 31 v) (h : DataW.Trod enc Tryd.prog w 0 (fun _ => true) held 31 v d p) :
    ∃ (x : Rc) (da : Option Addr) (dc : Nat) (ca : Option Addr) (cc : Nat), v = rcV x da dc ca cc ∧ x.ints ∧ Lies w da (bs x.d) ∧ Lies w ca (bs x.c) ∧ x.d.length ≤ maxLen ∧ x.c.length ≤ maxLen := by
  obtain ⟨cs, rfl, hsz⟩ := okWide_struct Tryd.underlying31 hv
  obtain ⟨c0, c1, c2, c3, c4, c5, c6, c7, c8, c9, c10, c11, c12, rfl⟩ := array13 (hsz.trans cRec13)
  obtain ⟨fuel, hf⟩ := h
  obtain ⟨xs, n, _, _, _, hlen, hg⟩ := DataW.trod_struct Tryd.underlying31 hf
  match xs, hlen with
  | [y0, y1, y2, y3, y4, y5, y6], _ =>
    have g0 := hg 0 _ rfl
    have g1 := hg 1 _ rfl
    have g2 := hg 2 _ rfl
    have g3 := hg 3 _ rfl
    have g4 := hg 4 _ rfl
    have g5 := hg 5 _ rfl
    have g6 := hg 6 _ rfl
    simp [Value.cells, cInt1, cHead6, cSym2, cByt1] at g0 g1 g2 g3 g4 g5 g6
    obtain ⟨k, rfl, ik⟩ := one_int g0
    obtain ⟨pl, rfl, ip⟩ := one_int g1
    obtain ⟨nn, rfl, inn⟩ := one_int g2
    obtain ⟨ty, rfl, iy⟩ := one_int g3
    obtain ⟨hs, n4, _, _, _, hl4, hg4⟩ := DataW.trod_struct Tryd.underlying25 g4
    match hs, hl4 with
    | [z0, z1, z2, z3, z4], _ =>
      have e0 := hg4 0 _ rfl
      have e1 := hg4 1 _ rfl
      have e2 := hg4 2 _ rfl
      have e3 := hg4 3 _ rfl
      have e4 := hg4 4 _ rfl
      simp [cInt1, cPlan2] at e0 e1 e2 e3 e4
      obtain ⟨F, rfl, iF⟩ := one_int e0
      obtain ⟨Q, rfl, iQ⟩ := one_int e1
      obtain ⟨T, rfl, iT⟩ := one_int e2
      obtain ⟨L, rfl, iL⟩ := one_int e3
      obtain ⟨ps, n5, _, _, _, hl5, hg5⟩ := DataW.trod_struct Tryd.underlying23 e4
      match ps, hl5 with
      | [u0, u1], _ =>
        have a0 := hg5 0 _ rfl
        have a1 := hg5 1 _ rfl
        simp [cInt1] at a0 a1
        obtain ⟨B, rfl, iB⟩ := one_int a0
        obtain ⟨K, rfl, iK⟩ := one_int a1
        obtain ⟨ss, n6, _, _, _, hl6, hg6⟩ := DataW.trod_struct Tryd.underlying29 g5
        match ss, hl6 with
        | [s0, s1], _ =>
          have b0 := hg6 0 _ rfl
          have b1 := hg6 1 _ rfl
          simp [cInt1, cBlk1] at b0 b1
          obtain ⟨id, rfl, iid⟩ := one_int b0
          obtain ⟨da, dc, dl, rfl, h1, h2, _, _⟩ := open_bytes2 Tryd.underlying27 Tryd.underlying5 cU81 b1
          obtain ⟨ca, cc, cl, rfl, h3, h4, _, _⟩ := open_bytes2 Tryd.underlying26 Tryd.underlying5 cU81 g6
          exact ⟨⟨k, pl, nn, ty, ⟨F, Q, T, L, B, K⟩, id, dl, cl⟩, da, dc, ca, cc, rfl, ⟨ik, ip, inn, iy, ⟨iF, iQ, iT, iL, iB, iK⟩, iid⟩, h1, h3, h2, h4⟩
end
end Go.Proofs.YtippbfbdghfnaaaDoor

/-
  A head that came in.
-/
namespace Go.Proofs.YtippbfbdghfnaaaDoor
open Go.ChangeShapes Go.WideShapes Go.ChangeAt Go.RowKit
set_option linter.unusedVariables false

theorem array6 {α : Type} {cs : Array α} (h : cs.size = 6) : ∃ c0 c1 c2 c3 c4 c5, cs = #[c0, c1, c2, c3, c4, c5] := by
  obtain ⟨l⟩ := cs
  match l, h with
  | [c0, c1, c2, c3, c4, c5], _ => exact ⟨c0, c1, c2, c3, c4, c5, rfl⟩

section
variable {H : Type} {enc : TypeId × Value → H} {w : World} {held : Bool}

set_option maxRecDepth 8000 in
theorem open_head {r : Reach} {b0 : Nat} {v : Value} {d : DataW H} {p : List MemPlace} (hv : Value.okWide Tryd.prog w r b0 25 v) (h : DataW.Trod enc Tryd.prog w 0 (fun _ => true) held 25 v d p) :
    ∃ h : Hd, v = h.val ∧ h.ok := by
  obtain ⟨cs, rfl, hsz⟩ := okWide_struct Tryd.underlying25 hv
  obtain ⟨c0, c1, c2, c3, c4, c5, rfl⟩ := array6 (hsz.trans cHead6)
  obtain ⟨fuel, hf⟩ := h
  obtain ⟨hs, n4, _, _, _, hl4, hg4⟩ := DataW.trod_struct Tryd.underlying25 hf
  match hs, hl4 with
  | [z0, z1, z2, z3, z4], _ =>
    have e0 := hg4 0 _ rfl
    have e1 := hg4 1 _ rfl
    have e2 := hg4 2 _ rfl
    have e3 := hg4 3 _ rfl
    have e4 := hg4 4 _ rfl
    simp [Value.cells, cInt1, cPlan2] at e0 e1 e2 e3 e4
    obtain ⟨F, rfl, iF⟩ := one_int e0
    obtain ⟨Q, rfl, iQ⟩ := one_int e1
    obtain ⟨T, rfl, iT⟩ := one_int e2
    obtain ⟨L, rfl, iL⟩ := one_int e3
    obtain ⟨ps, n5, _, _, _, hl5, hg5⟩ := DataW.trod_struct Tryd.underlying23 e4
    match ps, hl5 with
    | [u0, u1], _ =>
      have a0 := hg5 0 _ rfl
      have a1 := hg5 1 _ rfl
      simp [cInt1] at a0 a1
      obtain ⟨B, rfl, iB⟩ := one_int a0
      obtain ⟨K, rfl, iK⟩ := one_int a1
      exact ⟨⟨F, Q, T, L, B, K⟩, rfl, iF, iQ, iT, iL, iB, iK⟩

end

end Go.Proofs.YtippbfbdghfnaaaDoor

/-
  What the rows' condition on the listed variables gives chapter 7's walks, and that the heap of the door's own run meets it.
-/
namespace Go.Proofs.YtippbfbdghfnaaaDoor
open Go.ChangeShapes Go.WideShapes Go.ChangeAt Go.RowKit
set_option linter.unusedVariables false

theorem own : ownKnob Tryd.prog.godebug = none := by kernel_rfl

/-- what the rows list -/
def listed : List (String × DataW Unit) := [("math/bits.deBruijn32tab", Rows.laid_math_bits_deBruijn32tab), ("math/bits.deBruijn64tab", Rows.laid_math_bits_deBruijn64tab), ("internal/strconv.uint64pow10", Rows.laid_internal_strconv_uint64pow10), ("unicode/utf8.acceptRanges", Rows.laid_unicode_utf8_acceptRanges), ("strconv.ErrRange", Rows.laid_strconv_ErrRange), ("strconv.ErrSyntax", Rows.laid_strconv_ErrSyntax), ("unicode/utf8.first", Rows.laid_unicode_utf8_first)]

/-- The door's own heap meets the condition. -/
theorem door_met (os : Os) (args : Array Value) : laidMetH Tryd.prog listed ((World.laidAll Tryd.prog os listed).forCall (fun _ _ => 0) ⟨#[], args, []⟩).memory := by
  rw [MakeChecks.laidMetH_plain _ _ _ (by kernel_rfl)]
  exact laidMet_laidAll _ (by kernel_rfl) (by kernel_rfl)

theorem cU64 : Tryd.prog.cellsOf 122 = 1 := by kernel_rfl
theorem cTab : Tryd.prog.cellsOf 147 = 20 := by kernel_rfl
theorem cStr : Tryd.prog.cellsOf 9 = 1 := by kernel_rfl
theorem cErrS : Tryd.prog.cellsOf 154 = 1 := by kernel_rfl

noncomputable def gPow : Nat := (Tryd.prog.globalNamed "internal/strconv.uint64pow10").getD 0
noncomputable def gSyn : Nat := (Tryd.prog.globalNamed "strconv.ErrSyntax").getD 0
noncomputable def gRng : Nat := (Tryd.prog.globalNamed "strconv.ErrRange").getD 0

theorem nPow : Tryd.prog.globalNamed "internal/strconv.uint64pow10" = some gPow := by kernel_rfl
theorem nSyn : Tryd.prog.globalNamed "strconv.ErrSyntax" = some gSyn := by kernel_rfl
theorem nRng : Tryd.prog.globalNamed "strconv.ErrRange" = some gRng := by kernel_rfl
theorem tPow : (Tryd.prog.globals[gPow]?).map (·.type) = some 147 := by kernel_rfl
theorem tSyn : (Tryd.prog.globals[gSyn]?).map (·.type) = some 78 := by kernel_rfl
theorem tRng : (Tryd.prog.globals[gRng]?).map (·.type) = some 78 := by kernel_rfl

theorem starE : ("*" ++ "errors.errorString" : String) = "*errors.errorString" := by decide

theorem rowErr (u : TypeId) (h : Tryd.prog.typeName? 3 u = some "*errors.errorString") : u = 152 :=
  typeName_ptr_named (nm := "errors.errorString") (by rw [starE]; kernel_rfl) (by kernel_rfl) (by decide) u (by rw [starE]; exact h)

/-- What the condition gives the walks. -/
theorem laid_of {W : World} (h : laidMetH Tryd.prog listed W) (hs : W.ShapedOpen Tryd.prog) : LaidN W := by
  rw [MakeChecks.laidMetH_plain _ _ _ (by kernel_rfl)] at h
  refine ⟨?_, ?_, ?_, ?_⟩
  · exact Lib.tabIs_of_head nPow tPow Tryd.underlying147 Tryd.underlying122 cU64 cTab h.tail.tail
  · exact Go.Proofs.cell_of_shapedOpen_int (zero := #[.int .i64 0]) (t := 3) hs (of_decide_eq_true (by kernel_rfl)) (by kernel_rfl) rfl (by kernel_rfl) (by kernel_rfl) Tryd.underlying3
  · obtain ⟨a, s, hv, -, -, -⟩ := laid_sentinel h.tail.tail.tail.tail.tail nSyn tSyn Tryd.underlying78 rowErr Tryd.underlying152 Tryd.underlying154 rfl rfl Tryd.underlying9 cErrS cStr
    exact ⟨_, _, hv⟩
  · obtain ⟨a, s, hv, -, -, -⟩ := laid_sentinel h.tail.tail.tail.tail nRng tRng Tryd.underlying78 rowErr Tryd.underlying152 Tryd.underlying154 rfl rfl Tryd.underlying9 cErrS cStr
    exact ⟨_, _, hv⟩

end Go.Proofs.YtippbfbdghfnaaaDoor
