import Derived.Test.YtekdigbdfeamkaaGreatDoorPart20
import Derived.Test.YtekdigbdfeamkaaGreatDoorPart21
import Derived.Test.YtekdigbdfeamkaaGreatDoorPart10
import Derived.Test.YtekdigbdfeamkaaGreatDoorPart14
import Derived.Test.YtekdigbdfeamkaaGreatDoorPart1
import Derived.ProofKit
import Derived.OpenShut
import Derived.ShutString
import Derived.ChangeOld
import Derived.Below
import Derived.Carry
import Derived.SizedLaws
import Derived.Deep.Slices
/-
  DiskSays' walk.
-/
namespace Go.Proofs.YtekdigbdfeamkaaGreatDoor
open Go.RowKit
set_option linter.unusedVariables false
set_option linter.unusedSimpArgs false

theorem DiskR.ans {B : Nat} {z : Int} {s v : List UInt8} {e : Ending} {w' : World} (h : DiskR B z s v e w') : DkAns z s v e w' := by
  obtain ⟨sa, n, sc, wa, m, wc, he, h1, _⟩ := h.out
  exact ⟨sa, n, sc, wa, m, wc, he, h1⟩

/-- what Recover answers -/
def RcAnsI (z : Int) (t : List UInt8) (l : List Rc) (e : Ending) (w' : World) : Prop :=
  ∃ (L : List MRec) (q : Nat) (p : Option Addr) (cp : Nat) (sa : Option Addr) (n sc : Nat), e = .returned (.tuple #[.agg #[.slice sa n sc, .slice none 0 0], .slice p q cp, .int .i64 z]) ∧ L.length = q ∧ DkIn w' (if z = 0 then t else []) [] sa n sc none 0 0 ∧ L.map MRec.r = (if z = 0 then l else []) ∧ Lies w' p (recCells L) ∧ ∀ y ∈ L, RecIn w' y

section
variable {w : World} {s v : List UInt8} {sa : Option Addr} {n sc : Nat} {wa : Option Addr} {m wc : Nat}

theorem putI (ln : n ≤ 9223372036854775807) (lm : m ≤ 9223372036854775807) (r : Rc) (da : Option Addr) (dc : Nat) (ca : Option Addr) (cc : Nat) (hi : r.ints) (ld : r.d.length ≤ maxLen) (h : DkIn w s v sa n sc wa m wc) (hd : Lies w da (bs r.d)) (hc : Lies w ca (bs r.c)) (hL : LaidN w) :
    Calls Tryz.prog 4 #[.agg #[.slice sa n sc, .slice wa m wc], rcV r da dc ca cc] w fun e w' => DkAnsI (putCode s v r) s (v ++ (r.text ++ [10])) e w' ∧ Below w.heap.size w w' := by
  obtain ⟨rfl, rfl, h1, h2, h3, h4⟩ := h
  exact (putD_any sa sc wa wc s v r da dc ca cc w ln lm h1 h3 h4 hi ld hd hc hL).mono fun e w' h => ⟨h.1.ans, h.2⟩

theorem syncI (ln : n ≤ 9223372036854775807) (lm : m ≤ 9223372036854775807) (h : DkIn w s v sa n sc wa m wc) (hL : LaidN w) :
    Calls Tryz.prog 5 #[.agg #[.slice sa n sc, .slice wa m wc]] w fun e w' => DkAnsI (syncCode s v) (s ++ v) [] e w' ∧ Below w.heap.size w w' := by
  obtain ⟨rfl, rfl, h1, h2, h3, h4⟩ := h
  refine (syncD_any sa sc wa wc s v w ln lm h1 h3 h4 hL).mono fun e w' h => ⟨?_, h.2⟩
  have := h.1.ans
  unfold DkAnsI
  simpa using this

theorem crashI (ln : n ≤ 9223372036854775807) (lm : m ≤ 9223372036854775807) (k : Int) (hk : I64 k) (h : DkIn w s v sa n sc wa m wc) (hL : LaidN w) :
    Calls Tryz.prog 6 #[.agg #[.slice sa n sc, .slice wa m wc], .int .i64 k] w fun e w' => DkAnsI (crashCode s v k) s (v.take k.toNat) e w' ∧ Below w.heap.size w w' := by
  obtain ⟨rfl, rfl, h1, h2, h3, h4⟩ := h
  exact (crashD_any sa sc wa wc s v k w ln lm h1 h3 h4 h2 hk hL).mono fun e w' h => ⟨h.1.ans, h.2⟩

theorem recovI (ln : n ≤ 9223372036854775807) (lm : m ≤ 9223372036854775807) (h : DkIn w s v sa n sc wa m wc) (hL : LaidN w) :
    Calls Tryz.prog 7 #[.agg #[.slice sa n sc, .slice wa m wc]] w fun e w' => RcAnsI (dkCode s v) ((s ++ v).take (linesL 200 (s ++ v)).2.1) (linesL 200 (s ++ v)).1 e w' ∧ Below w.heap.size w w' := by
  obtain ⟨rfl, rfl, h1, h2, h3, h4⟩ := h
  refine (recovD_any sa sc wa wc s v w ln lm h1 h3 h4 hL).mono ?_
  rintro e w' ⟨hp, hb⟩
  refine ⟨?_, hb⟩
  rcases hp with ⟨hz, rfl⟩ | ⟨hz, L, p, cp, sa', sc', k, rfl, hk, e1, e2, e3, e4, e5, e6, e7, e8⟩
  · exact ⟨[], 0, none, 0, none, 0, 0, rfl, rfl, by rw [if_neg hz]; exact DkIn.zero _, by rw [if_neg hz]; rfl, Lies.nil _ _, fun y hy => absurd hy (by simp)⟩
  · subst hk
    have hs := linesL_size 200 (s ++ v)
    exact ⟨L, _, p, cp, sa', _, sc', by rw [hz]; rfl, rfl, by rw [if_pos hz]; exact ⟨by rw [List.length_take]; omega, rfl, e3, Nat.le_refl _, e4, Lies.nil _ _⟩, by rw [if_pos hz]; exact e1, e5, fun y hy => (e6 y hy).1⟩

end

theorem entersSameRec : ∀ args w, (callFunc 17 args).run Tryz.prog w = .ok (.enter 17 args) w := enters_of Tryz.func17 (by kernel_rfl) rfl

theorem putCode_short {s v : List UInt8} {r : Rc} (h : putCode s v r = 0) : s.length ≤ 60000 ∧ (v ++ (r.text ++ [10])).length ≤ 60000 := by
  unfold putCode at h
  split at h
  · split at h
    · split at h
      · simp only [List.length_append, List.length_singleton]; omega
      · cases h
    · rename_i g; exact absurd h g
  · rename_i g; exact absurd h g

theorem dkCode_short {s v : List UInt8} (h : dkCode s v = 0) : s.length + v.length ≤ 60000 := by
  unfold dkCode at h
  split at h
  · cases h
  · omega

/-- the disk of an answer is short -/
theorem DkIn.small {w : World} {z : Int} {s v : List UInt8} {sa : Option Addr} {n sc : Nat} {wa : Option Addr} {m wc : Nat} (h : DkIn w (if z = 0 then s else []) (if z = 0 then v else []) sa n sc wa m wc) (hz : z = 0 → s.length ≤ 120000 ∧ v.length ≤ 120000) : n ≤ maxLen ∧ m ≤ maxLen := by
  have h1 := h.hn
  have h2 := h.hm
  by_cases e : z = 0
  · rw [if_pos e] at h1 h2
    have := hz e
    unfold maxLen
    omega
  · rw [if_neg e] at h1 h2
    simp at h1 h2
    unfold maxLen
    omega

set_option maxHeartbeats 8000000 in
set_option maxRecDepth 8000 in
theorem W_diskSays (s v : List UInt8) (sa : Option Addr) (n sc : Nat) (wa : Option Addr) (m wc : Nat) (r : Rc) (da : Option Addr) (dc : Nat) (ca : Option Addr) (cc : Nat) (k : Int) (xs xv : List UInt8) (xa : Option Addr) (xn xc : Nat) (ya : Option Addr) (yn yc : Nat) (w : World)
    (hd : DkIn w s v sa n sc wa m wc) (hx : DkIn w xs xv xa xn xc ya yn yc) (ln : n ≤ 9223372036854775807) (lm : m ≤ 9223372036854775807) (lx : xn ≤ maxLen) (ly : yn ≤ maxLen) (hi : r.ints) (ld : r.d.length ≤ maxLen) (hrd : Lies w da (bs r.d)) (hrc : Lies w ca (bs r.c)) (hk : I64 k) (hL : LaidN w) :
    Calls Tryz.prog 3 #[.agg #[.slice sa n sc, .slice wa m wc], rcV r da dc ca cc, .int .i64 k, .agg #[.slice xa xn xc, .slice ya yn yc]] w fun e w' => e = .returned (.bool true) ∧ Below w.heap.size w w' := by
  obtain ⟨V0, hV0⟩ : ∃ W, ((w.alloc (.cells #[.slice sa n sc, .slice wa m wc] 24)).alloc (.cells #[.int .i64 r.k, .int .i64 r.p, .int .i64 r.n, .int .i64 r.y, .int .i64 r.h.F, .int .i64 r.h.Q, .int .i64 r.h.T, .int .i64 r.h.L, .int .i64 r.h.B, .int .i64 r.h.K, .int .i64 r.id, .slice da r.d.length dc, .slice ca r.c.length cc] 33)).alloc (.cells #[.slice xa xn xc, .slice ya yn yc] 24) = W := ⟨_, rfl⟩
  have F0 : Below w.heap.size w V0 := by rw [← hV0]; exact (((Below.refl _ _).alloc (Nat.le_refl _) _).alloc (by simp) _).alloc (by simp; omega) _
  have hb0 : V0.heap[w.heap.size]? = some (.cells #[.slice sa n sc, .slice wa m wc] 24 (0, 0)) := by rw [← hV0, heap_alloc_eq, if_neg (by simp; omega), heap_alloc_eq, if_neg (by simp), heap_alloc_eq, if_pos rfl]
  have hbr : V0.heap[w.heap.size + 1]? = some (.cells #[.int .i64 r.k, .int .i64 r.p, .int .i64 r.n, .int .i64 r.y, .int .i64 r.h.F, .int .i64 r.h.Q, .int .i64 r.h.T, .int .i64 r.h.L, .int .i64 r.h.B, .int .i64 r.h.K, .int .i64 r.id, .slice da r.d.length dc, .slice ca r.c.length cc] 33 (0, 0)) := by rw [← hV0, heap_alloc_eq, if_neg (by simp), heap_alloc_eq, if_pos (by simp)]
  have hbx : V0.heap[w.heap.size + 1 + 1]? = some (.cells #[.slice xa xn xc, .slice ya yn yc] 24 (0, 0)) := by rw [← hV0, heap_alloc_eq, if_pos (by simp)]
  have G0 : Below V0.heap.size V0 V0 := Below.refl _ _
  have hP := putI ln lm r da dc ca cc hi ld (hd.below F0) (hrd.below F0 (Nat.le_refl _)) (hrc.below F0 (Nat.le_refl _)) (hL.below F0)
  have ES : Shut (s.length = n ∧ v.length = m) := ⟨hd.hn, hd.hm⟩
  simp only [rcV] at hP ⊢
  obtain ⟨c0, c1, f0, f1⟩ := cellsD hb0
  have q0 : V0.cell? ⟨w.heap.size + 1, 0, none⟩ = some (.int .i64 r.k) := cellB hbr 0 _ rfl
  have q1 : V0.cell? ⟨w.heap.size + 1, 1, none⟩ = some (.int .i64 r.p) := cellB hbr 1 _ rfl
  have q2 : V0.cell? ⟨w.heap.size + 1, 2, none⟩ = some (.int .i64 r.n) := cellB hbr 2 _ rfl
  have q3 : V0.cell? ⟨w.heap.size + 1, 3, none⟩ = some (.int .i64 r.y) := cellB hbr 3 _ rfl
  have q4 : V0.cell? ⟨w.heap.size + 1, 4, none⟩ = some (.int .i64 r.h.F) := cellB hbr 4 _ rfl
  have q5 : V0.cell? ⟨w.heap.size + 1, 5, none⟩ = some (.int .i64 r.h.Q) := cellB hbr 5 _ rfl
  have q6 : V0.cell? ⟨w.heap.size + 1, 6, none⟩ = some (.int .i64 r.h.T) := cellB hbr 6 _ rfl
  have q7 : V0.cell? ⟨w.heap.size + 1, 7, none⟩ = some (.int .i64 r.h.L) := cellB hbr 7 _ rfl
  have q8 : V0.cell? ⟨w.heap.size + 1, 8, none⟩ = some (.int .i64 r.h.B) := cellB hbr 8 _ rfl
  have q9 : V0.cell? ⟨w.heap.size + 1, 9, none⟩ = some (.int .i64 r.h.K) := cellB hbr 9 _ rfl
  have q10 : V0.cell? ⟨w.heap.size + 1, 10, none⟩ = some (.int .i64 r.id) := cellB hbr 10 _ rfl
  have q11 : V0.cell? ⟨w.heap.size + 1, 11, none⟩ = some (.slice da r.d.length dc) := cellB hbr 11 _ rfl
  have q12 : V0.cell? ⟨w.heap.size + 1, 12, none⟩ = some (.slice ca r.c.length cc) := cellB hbr 12 _ rfl
  obtain ⟨zp, hzp⟩ : ∃ z, putCode s v r = z := ⟨_, rfl⟩
  obtain ⟨zs, hzs⟩ : ∃ z, syncCode s v = z := ⟨_, rfl⟩
  obtain ⟨zc, hzc⟩ : ∃ z, crashCode s v k = z := ⟨_, rfl⟩
  obtain ⟨zb, hzb⟩ : ∃ z, dkCode s v = z := ⟨_, rfl⟩
  have HZ := Shut.mk (And.intro hzp (And.intro hzs (And.intro hzc hzb)))
  rw [hzp] at hP
  clear hzp hzs hzc hzb
  go_enter Tryz.func3, Tryz.ntmps3
  go_wp2_with fail
  refine hP.mono ?_
  rintro e U1 ⟨⟨a1, n1, s1, b1, m1, t1, rfl, d1⟩, B1⟩
  clear hP c0 c1 f0 f1
  clear q0 q1 q2 q3 q4 q5 q6 q7 q8 q9 q10 q11 q12
  go_upto_region 2 with fail
  obtain ⟨V1, hV1⟩ : ∃ V1, U1.alloc (.cells #[.slice a1 n1 s1, .slice b1 m1 t1] 24) = V1 := ⟨_, rfl⟩
  rw [hV1]
  have C1 : Below U1.heap.size U1 V1 := by rw [← hV1]; exact (Below.refl _ _).alloc (Nat.le_refl _) _
  have k1 : V1.heap[U1.heap.size]? = some (.cells #[.slice a1 n1 s1, .slice b1 m1 t1] 24 (0, 0)) := by rw [← hV1, heap_alloc_eq, if_pos rfl]
  have D1 : Below V0.heap.size V0 V1 := B1.trans (C1.mono B1.size)
  have G1 := G0.trans (D1.mono G0.size)
  have F1 := F0.trans (D1.mono F0.size)
  have d1' := d1.below C1
  clear hV1 d1 hV0
  have hSy := syncI ln lm (hd.below F1) (hL.below F1)
  rw [HZ.out.2.1] at hSy
  obtain ⟨c0, c1, f0, f1⟩ := cellsD (blkB hb0 G1)
  go_wp2_with fail
  refine hSy.mono ?_
  rintro e U2 ⟨⟨a2, n2, s2, b2, m2, t2, rfl, d2⟩, B2⟩
  clear hSy c0 c1 f0 f1
  go_upto_region 3 with fail
  obtain ⟨V2, hV2⟩ : ∃ V2, U2.alloc (.cells #[.slice a2 n2 s2, .slice b2 m2 t2] 24) = V2 := ⟨_, rfl⟩
  rw [hV2]
  have C2 : Below U2.heap.size U2 V2 := by rw [← hV2]; exact (Below.refl _ _).alloc (Nat.le_refl _) _
  have k2 : V2.heap[U2.heap.size]? = some (.cells #[.slice a2 n2 s2, .slice b2 m2 t2] 24 (0, 0)) := by rw [← hV2, heap_alloc_eq, if_pos rfl]
  have D2 : Below V1.heap.size V1 V2 := B2.trans (C2.mono B2.size)
  have G2 := G1.trans (D2.mono G1.size)
  have F2 := F1.trans (D2.mono F1.size)
  have d2' := d2.below C2
  clear hV2 d2
  have hCr := crashI ln lm k hk (hd.below F2) (hL.below F2)
  rw [HZ.out.2.2.1] at hCr
  obtain ⟨c0, c1, f0, f1⟩ := cellsD (blkB hb0 G2)
  go_wp2_with fail
  refine hCr.mono ?_
  rintro e U3 ⟨⟨a3, n3, s3, b3, m3, t3, rfl, d3⟩, B3⟩
  clear hCr c0 c1 f0 f1
  go_upto_region 4 with fail
  obtain ⟨V3, hV3⟩ : ∃ V3, U3.alloc (.cells #[.slice a3 n3 s3, .slice b3 m3 t3] 24) = V3 := ⟨_, rfl⟩
  rw [hV3]
  have C3 : Below U3.heap.size U3 V3 := by rw [← hV3]; exact (Below.refl _ _).alloc (Nat.le_refl _) _
  have k3 : V3.heap[U3.heap.size]? = some (.cells #[.slice a3 n3 s3, .slice b3 m3 t3] 24 (0, 0)) := by rw [← hV3, heap_alloc_eq, if_pos rfl]
  have D3 : Below V2.heap.size V2 V3 := B3.trans (C3.mono B3.size)
  have G3 := G2.trans (D3.mono G2.size)
  have F3 := F2.trans (D3.mono F2.size)
  have d3' := d3.below C3
  clear hV3 d3
  have hRc := recovI ln lm (hd.below F3) (hL.below F3)
  rw [HZ.out.2.2.2] at hRc
  obtain ⟨c0, c1, f0, f1⟩ := cellsD (blkB hb0 G3)
  go_wp2_with fail
  refine hRc.mono ?_
  rintro e U4 ⟨⟨LL, lq, lp, lc, a4, n4, s4, rfl, hLq, d4, hLm, hLl, hLi⟩, B4⟩
  clear hRc c0 c1 f0 f1
  go_upto_region 5 with fail
  obtain ⟨V4, hV4⟩ : ∃ V4, U4.alloc (.cells #[.slice a4 n4 s4, .slice none 0 0] 24) = V4 := ⟨_, rfl⟩
  rw [hV4]
  have C4 : Below U4.heap.size U4 V4 := by rw [← hV4]; exact (Below.refl _ _).alloc (Nat.le_refl _) _
  have k4 : V4.heap[U4.heap.size]? = some (.cells #[.slice a4 n4 s4, .slice none 0 0] 24 (0, 0)) := by rw [← hV4, heap_alloc_eq, if_pos rfl]
  have D4 : Below V3.heap.size V3 V4 := B4.trans (C4.mono B4.size)
  have G4 := G3.trans (D4.mono G3.size)
  have F4 := F3.trans (D4.mono F3.size)
  have d4' := d4.below C4
  clear hV4 d4
  have hLl4 := hLl.below C4 (Nat.le_refl _)
  have HLi : Shut (∀ y ∈ LL, RecIn V4 y) := ⟨fun y hy => (hLi y hy).below C4⟩
  have HLm := Shut.mk (And.intro hLq hLm)
  clear hLl hLi hLq hLm
  have hCk := checkDR (hd.below F4) ln lm (hL.below F4)
  rw [HZ.out.2.2.2] at hCk
  obtain ⟨c0, c1, f0, f1⟩ := cellsD (blkB hb0 G4)
  go_wp2_with fail
  refine hCk.mono ?_
  rintro e U5 ⟨rfl, B5⟩
  clear hCk c0 c1 f0 f1
  go_upto_region 7 with fail
  obtain ⟨V5, hV5⟩ : ∃ V5, U5.alloc (.cells #[.slice none 0 0, .slice none 0 0] 24) = V5 := ⟨_, rfl⟩
  rw [hV5]
  have C5 : Below U5.heap.size U5 V5 := by rw [← hV5]; exact (Below.refl _ _).alloc (Nat.le_refl _) _
  have k5 : V5.heap[U5.heap.size]? = some (.cells #[.slice none 0 0, .slice none 0 0] 24 (0, 0)) := by rw [← hV5, heap_alloc_eq, if_pos rfl]
  have D5 : Below V4.heap.size V4 V5 := B5.trans (C5.mono B5.size)
  have G5 := G4.trans (D5.mono G4.size)
  have F5 := F4.trans (D5.mono F4.size)
  clear hV5
  have cFl : ∀ u : Above V5, Calls Tryz.prog 9 #[] u.w fun e w' => e = .returned (.bool true) ∧ Below u.w.heap.size u.w w' := fun u => filed_any u.w (hL.below (F5.trans (u.below.mono F5.size)))
  have cCk : ∀ u : Above V5, Calls Tryz.prog 10 #[.agg #[.slice sa n sc, .slice wa m wc]] u.w fun e w' => e = .returned (.int .i64 zb) ∧ Below u.w.heap.size u.w w' := fun u => by
    have hh := hd.below (F5.trans (u.below.mono F5.size))
    have h := checkD_any sa sc wa wc s v u.w (by rw [ES.out.1]; exact ln) (by rw [ES.out.2]; exact lm) (by rw [ES.out.1]; exact hh.hsc) hh.ls (hL.below (F5.trans (u.below.mono F5.size)))
    unfold dkV at h
    rw [ES.out.1, ES.out.2, HZ.out.2.2.2] at h
    exact h
  obtain ⟨DD, hDD⟩ : ∃ DD, decide (s = xs ∧ v = xv) = DD := ⟨_, rfl⟩
  have cSm : ∀ u : Above V5, Calls Tryz.prog 11 #[.agg #[.slice sa n sc, .slice wa m wc], .agg #[.slice xa xn xc, .slice ya yn yc]] u.w fun e w' => e = .returned (.bool DD) ∧ Below u.w.heap.size u.w w' := fun u => by
    have hh := hd.below (F5.trans (u.below.mono F5.size))
    have hg := hx.below (F5.trans (u.below.mono F5.size))
    have h := sameD_any sa sc wa wc s v xa xc ya yc xs xv u.w hh.ls hh.lv hg.ls hg.lv
    unfold dkV at h
    rw [ES.out.1, ES.out.2, hg.hn, hg.hm, hDD] at h
    exact h
  have cSr : ∀ u : Above V5, Calls Tryz.prog 12 #[.agg #[.slice sa n sc, .slice wa m wc], .agg #[.slice xa xn xc, .slice ya yn yc]] u.w fun e w' => e = .returned (.bool DD) ∧ Below u.w.heap.size u.w w' := fun u => by
    have h := sameDR (hd.below (F5.trans (u.below.mono F5.size))) (hx.below (F5.trans (u.below.mono F5.size))) ln lm lx ly
    rw [hDD] at h
    exact h
  have hb05 := blkB hb0 G5
  have hbx5 := blkB hbx G5
  have p0 : ∀ u : Above V5, u.w.cell? ⟨w.heap.size, 0, none⟩ = some (.slice sa n sc) := fun u => Above.cell (cellsD hb05).1 u
  have p1 : ∀ u : Above V5, u.w.cell? ⟨w.heap.size, 1, none⟩ = some (.slice wa m wc) := fun u => Above.cell (cellsD hb05).2.1 u
  have p2 : ∀ u : Above V5, u.w.cell? ⟨w.heap.size + 1 + 1, 0, none⟩ = some (.slice xa xn xc) := fun u => Above.cell (cellsD hbx5).1 u
  have p3 : ∀ u : Above V5, u.w.cell? ⟨w.heap.size + 1 + 1, 1, none⟩ = some (.slice ya yn yc) := fun u => Above.cell (cellsD hbx5).2.1 u
  have k1' := blkB (blkB (blkB (blkB k1 D2) D3) D4) D5
  have k2' := blkB (blkB (blkB k2 D3) D4) D5
  have k3' := blkB (blkB k3 D4) D5
  have k4' := blkB k4 D5
  have e1 := (((d1'.below D2).below D3).below D4).below D5
  have e2 := ((d2'.below D3).below D4).below D5
  have e3 := (d3'.below D4).below D5
  have e4 := d4'.below D5
  have hLl5 := hLl4.below D5 (Nat.le_refl _)
  have HLi5 : Shut (∀ y ∈ LL, RecIn V5 y) := ⟨fun y hy => (HLi.out y hy).below D5⟩
  clear hDD k1 k2 k3 k4 d1' d2' d3' d4' hLl4 HLi hb05 hbx5 B1 B2 B3 B4 B5 C1 C2 C3 C4 C5 D1 D2 D3 D4 D5 G0 G1 G2 G3 G4 F0 F1 F2 F3 F4 hx lx ly
  go_upto_region 7 with fail
  refine wp_region_above (by kernel_rfl) (by kernel_rfl) ?_
  iterate 17 (go_big_quiet_step (first | rfl | (go_at_call 9; exact Calls.above (cFl _)) | (go_at_call 10; exact Calls.above (cCk _)) | (go_at_call 11; exact Calls.above (cSm _)) | (go_at_call 12; exact Calls.above (cSr _))))
  refine wpQuiet_nil ?_
  rintro _ ⟨u, rfl⟩
  have F7 := F5.trans (u.below.mono F5.size)
  have G7 := G5.trans (u.below.mono G5.size)
  have k17 := blkB k1' u.below
  have k27 := blkB k2' u.below
  have k37 := blkB k3' u.below
  have k47 := blkB k4' u.below
  have k57 := blkB k5 u.below
  have e17 := e1.below u.below
  have e27 := e2.below u.below
  have e37 := e3.below u.below
  have e47 := e4.below u.below
  have hLl7 := hLl5.below u.below (Nat.le_refl _)
  have HLi7 : Shut (∀ y ∈ LL, RecIn u.w y) := ⟨fun y hy => (HLi5.out y hy).below u.below⟩
  clear cFl cCk cSm cSr p0 p1 p2 p3 k1' k2' k3' k4' k5 e1 e2 e3 e4 hLl5 HLi5 F5 G5
  generalize u.w = U7 at *
  clear u
  by_cases hz : zb = 0
  case neg =>
    have ep : zp = zb := by rw [← HZ.out.1, putCode, if_neg (by rw [HZ.out.2.2.2]; exact hz), HZ.out.2.2.2]
    have es : zs = zb := by rw [← HZ.out.2.1, syncCode, if_neg (by rw [HZ.out.2.2.2]; exact hz), HZ.out.2.2.2]
    have ec : zc = zb := by rw [← HZ.out.2.2.1, crashCode, if_neg (by rw [HZ.out.2.2.2]; exact hz), HZ.out.2.2.2]
    rw [ep, if_neg hz, if_neg hz] at e17
    rw [es, if_neg hz, if_neg hz] at e27
    rw [ec, if_neg hz, if_neg hz] at e37
    rw [if_neg hz] at e47
    have hlq : lq = 0 := by
      have h := HLm.out.2
      rw [if_neg hz] at h
      have h2 := congrArg List.length h
      rw [List.length_map, HLm.out.1] at h2
      exact h2
    subst hlq
    rw [ep, es, ec]
    have bz : (zb != 0) = true := by simpa using hz
    have z1 : n1 = 0 := e17.hn.symm
    have z2 : m1 = 0 := e17.hm.symm
    have z3 : n2 = 0 := e27.hn.symm
    have z4 : m2 = 0 := e27.hm.symm
    have z5 : n3 = 0 := e37.hn.symm
    have z6 : m3 = 0 := e37.hm.symm
    have z7 : n4 = 0 := e47.hn.symm
    subst z1 z2 z3 z4 z5 z6 z7
    have hS : ∀ (U : World) (a b : Option Addr) (x y : Nat), DkIn U [] [] a 0 x b 0 y → Calls Tryz.prog 12 #[.agg #[.slice a 0 x, .slice b 0 y], .agg #[.slice none 0 0, .slice none 0 0]] U fun e w' => e = .returned (.bool true) ∧ Below U.heap.size U w' := fun U a b x y h => by
      have := sameDR h (DkIn.zero U) (Nat.zero_le _) (Nat.zero_le _) (Nat.zero_le _) (Nat.zero_le _)
      rw [decide_eq_true ⟨rfl, rfl⟩] at this
      exact this
    clear ep es ec hz hLl7 HLi7 HLm HZ ES hd hrd hrc hb0 hbr hbx
    have c1 := hS U7 a1 b1 s1 t1 e17
    obtain ⟨p0, p1, _, _⟩ := cellsD k17
    obtain ⟨p2, p3, _, _⟩ := cellsD k57
    go_wp2_with fail
    refine c1.mono ?_
    rintro e U8 ⟨rfl, B8⟩
    have F8 := F7.trans (B8.mono F7.size)
    have k28 := blkB k27 B8
    have k38 := blkB k37 B8
    have k48 := blkB k47 B8
    have k58 := blkB k57 B8
    have e28 := e27.below B8
    have e38 := e37.below B8
    have e48 := e47.below B8
    clear c1 p0 p1 p2 p3 k17 k27 k37 k47 k57 e17 e27 e37 e47 B8 F7 G7
    have c1 := hS U8 a2 b2 s2 t2 e28
    obtain ⟨p0, p1, _, _⟩ := cellsD k28
    obtain ⟨p2, p3, _, _⟩ := cellsD k58
    go_wp2_with fail
    refine c1.mono ?_
    rintro e U9 ⟨rfl, B9⟩
    have F9 := F8.trans (B9.mono F8.size)
    have k39 := blkB k38 B9
    have k49 := blkB k48 B9
    have k59 := blkB k58 B9
    have e39 := e38.below B9
    have e49 := e48.below B9
    clear c1 p0 p1 p2 p3 k28 k38 k48 k58 e28 e38 e48 B9 F8
    have c1 := hS U9 a3 b3 s3 t3 e39
    obtain ⟨p0, p1, _, _⟩ := cellsD k39
    obtain ⟨p2, p3, _, _⟩ := cellsD k59
    go_wp2_with fail
    refine c1.mono ?_
    rintro e UA ⟨rfl, BA⟩
    have FA := F9.trans (BA.mono F9.size)
    have k4A := blkB k49 BA
    have k5A := blkB k59 BA
    have e4A := e49.below BA
    clear c1 p0 p1 p2 p3 k39 k49 k59 e39 e49 BA F9
    have c1 := hS UA a4 none s4 0 e4A
    obtain ⟨p0, p1, _, _⟩ := cellsD k4A
    obtain ⟨p2, p3, _, _⟩ := cellsD k5A
    go_wp2_with fail
    refine c1.mono ?_
    rintro e UB ⟨rfl, BB⟩
    have FB := FA.trans (BB.mono FA.size)
    clear c1 p0 p1 p2 p3 k4A k5A e4A BB FA
    go_wp2
    go_ret
    exact ⟨rfl, FB⟩
  subst hz
  have ok : DkOk s v := ⟨dkCode_short HZ.out.2.2.2, by have h := HZ.out.2.2.2; rw [dkCode, if_neg (by have := dkCode_short h; omega)] at h; exact h⟩
  have hshort := ok.1
  have l1 := e17.small (fun h => by have := putCode_short (HZ.out.1.trans h); exact ⟨by omega, by omega⟩)
  have l2 := e27.small (fun _ => ⟨by rw [List.length_append]; omega, by simp⟩)
  have l3 := e37.small (fun _ => ⟨by omega, by rw [List.length_take]; omega⟩)
  rw [if_pos rfl] at e47
  have HLm2 : Shut (LL.length = lq ∧ LL.map MRec.r = (linesL 200 (s ++ v)).1) := ⟨HLm.out.1, by have h := HLm.out.2; rw [if_pos rfl] at h; exact h⟩
  clear HLm
  have hQ := putOnR (hd.below F7) ok r da dc ca cc hi ld (hrd.below F7 (Nat.le_refl _)) (hrc.below F7 (Nat.le_refl _)) (hL.below F7)
  rw [HZ.out.1] at hQ
  simp only [rcV] at hQ
  obtain ⟨c0, c1, f0, f1⟩ := cellsD (blkB hb0 G7)
  have hbr7 := blkB hbr G7
  have q0 : U7.cell? ⟨w.heap.size + 1, 0, none⟩ = some (.int .i64 r.k) := cellB hbr7 0 _ rfl
  have q1 : U7.cell? ⟨w.heap.size + 1, 1, none⟩ = some (.int .i64 r.p) := cellB hbr7 1 _ rfl
  have q2 : U7.cell? ⟨w.heap.size + 1, 2, none⟩ = some (.int .i64 r.n) := cellB hbr7 2 _ rfl
  have q3 : U7.cell? ⟨w.heap.size + 1, 3, none⟩ = some (.int .i64 r.y) := cellB hbr7 3 _ rfl
  have q4 : U7.cell? ⟨w.heap.size + 1, 4, none⟩ = some (.int .i64 r.h.F) := cellB hbr7 4 _ rfl
  have q5 : U7.cell? ⟨w.heap.size + 1, 5, none⟩ = some (.int .i64 r.h.Q) := cellB hbr7 5 _ rfl
  have q6 : U7.cell? ⟨w.heap.size + 1, 6, none⟩ = some (.int .i64 r.h.T) := cellB hbr7 6 _ rfl
  have q7 : U7.cell? ⟨w.heap.size + 1, 7, none⟩ = some (.int .i64 r.h.L) := cellB hbr7 7 _ rfl
  have q8 : U7.cell? ⟨w.heap.size + 1, 8, none⟩ = some (.int .i64 r.h.B) := cellB hbr7 8 _ rfl
  have q9 : U7.cell? ⟨w.heap.size + 1, 9, none⟩ = some (.int .i64 r.h.K) := cellB hbr7 9 _ rfl
  have q10 : U7.cell? ⟨w.heap.size + 1, 10, none⟩ = some (.int .i64 r.id) := cellB hbr7 10 _ rfl
  have q11 : U7.cell? ⟨w.heap.size + 1, 11, none⟩ = some (.slice da r.d.length dc) := cellB hbr7 11 _ rfl
  have q12 : U7.cell? ⟨w.heap.size + 1, 12, none⟩ = some (.slice ca r.c.length cc) := cellB hbr7 12 _ rfl
  go_wp2_with fail
  refine hQ.mono ?_
  rintro e U8 ⟨⟨a6, n6, s6, b6, m6, t6, rfl, d6⟩, B8⟩
  clear hQ c0 c1 f0 f1 hbr7
  clear q0 q1 q2 q3 q4 q5 q6 q7 q8 q9 q10 q11 q12
  go_upto_region 12 with fail
  have F_7 := F7
  have k1_7 := k17
  have k2_7 := k27
  have k3_7 := k37
  have k4_7 := k47
  have k5_7 := k57
  have e1_7 := e17
  have e2_7 := e27
  have e3_7 := e37
  have e4_7 := e47
  have hLl_7 := hLl7
  have HLi_7 := HLi7
  clear F_7 k17 k27 k37 k47 k57 e17 e27 e37 e47 hLl7 HLi7
  obtain ⟨V6, hV6⟩ : ∃ V6, U8.alloc (.cells #[.slice a6 n6 s6, .slice b6 m6 t6] 24) = V6 := ⟨_, rfl⟩
  rw [hV6]
  have C6 : Below U8.heap.size U8 V6 := by rw [← hV6]; exact (Below.refl _ _).alloc (Nat.le_refl _) _
  have k6_V6 : V6.heap[U8.heap.size]? = some (.cells #[.slice a6 n6 s6, .slice b6 m6 t6] 24 (0, 0)) := by rw [← hV6, heap_alloc_eq, if_pos rfl]
  clear hV6
  have D6 := B8.trans (C6.mono B8.size)
  have e6_V6 := d6.below C6
  have FV6 := F7.trans (D6.mono F7.size)
  have GV6 := G7.trans (D6.mono G7.size)
  have k1_V6 := blkB k1_7 D6
  have k2_V6 := blkB k2_7 D6
  have k3_V6 := blkB k3_7 D6
  have k4_V6 := blkB k4_7 D6
  have k5_V6 := blkB k5_7 D6
  have e1_V6 := e1_7.below D6
  have e2_V6 := e2_7.below D6
  have e3_V6 := e3_7.below D6
  have e4_V6 := e4_7.below D6
  have hLl_V6 := hLl_7.below D6 (Nat.le_refl _)
  have HLi_V6 : Shut (∀ y ∈ LL, RecIn V6 y) := ⟨fun y hy => (HLi_7.out y hy).below D6⟩
  clear F7 G7 k1_7 k2_7 k3_7 k4_7 k5_7 e1_7 e2_7 e3_7 e4_7 hLl_7 HLi_7
  clear B8 C6 D6 d6
  have hQ := syncedR (hd.below FV6) ok (hL.below FV6)
  rw [HZ.out.2.1] at hQ
  obtain ⟨c0, c1, f0, f1⟩ := cellsD (blkB hb0 GV6)
  go_wp2_with fail
  refine hQ.mono ?_
  rintro e U9 ⟨⟨a7, n7, s7, b7, m7, t7, rfl, d7⟩, B9⟩
  clear hQ c0 c1 f0 f1
  go_upto_region 13 with fail
  obtain ⟨V7, hV7⟩ : ∃ V7, U9.alloc (.cells #[.slice a7 n7 s7, .slice b7 m7 t7] 24) = V7 := ⟨_, rfl⟩
  rw [hV7]
  have C7 : Below U9.heap.size U9 V7 := by rw [← hV7]; exact (Below.refl _ _).alloc (Nat.le_refl _) _
  have k7_V7 : V7.heap[U9.heap.size]? = some (.cells #[.slice a7 n7 s7, .slice b7 m7 t7] 24 (0, 0)) := by rw [← hV7, heap_alloc_eq, if_pos rfl]
  clear hV7
  have D7 := B9.trans (C7.mono B9.size)
  have e7_V7 := d7.below C7
  have FV7 := FV6.trans (D7.mono FV6.size)
  have GV7 := GV6.trans (D7.mono GV6.size)
  have k1_V7 := blkB k1_V6 D7
  have k2_V7 := blkB k2_V6 D7
  have k3_V7 := blkB k3_V6 D7
  have k4_V7 := blkB k4_V6 D7
  have k5_V7 := blkB k5_V6 D7
  have k6_V7 := blkB k6_V6 D7
  have e1_V7 := e1_V6.below D7
  have e2_V7 := e2_V6.below D7
  have e3_V7 := e3_V6.below D7
  have e4_V7 := e4_V6.below D7
  have e6_V7 := e6_V6.below D7
  have hLl_V7 := hLl_V6.below D7 (Nat.le_refl _)
  have HLi_V7 : Shut (∀ y ∈ LL, RecIn V7 y) := ⟨fun y hy => (HLi_V6.out y hy).below D7⟩
  clear FV6 GV6 k1_V6 k2_V6 k3_V6 k4_V6 k5_V6 k6_V6 e1_V6 e2_V6 e3_V6 e4_V6 e6_V6 hLl_V6 HLi_V6
  clear B9 C7 D7 d7
  have hQ := recoveredR (hd.below FV7) ok (hL.below FV7)
  obtain ⟨c0, c1, f0, f1⟩ := cellsD (blkB hb0 GV7)
  go_wp2_with fail
  refine hQ.mono ?_
  rintro e UA ⟨⟨L8, q8, p8, c8, a8, n8, s8, rfl, hL8q, d8, hL8m, hL8c, hL8, hL8i⟩, BA⟩
  clear hQ c0 c1 f0 f1
  go_upto_region 14 with fail
  obtain ⟨V8, hV8⟩ : ∃ V8, UA.alloc (.cells #[.slice a8 n8 s8, .slice none 0 0] 24) = V8 := ⟨_, rfl⟩
  rw [hV8]
  have C8 : Below UA.heap.size UA V8 := by rw [← hV8]; exact (Below.refl _ _).alloc (Nat.le_refl _) _
  have k8_V8 : V8.heap[UA.heap.size]? = some (.cells #[.slice a8 n8 s8, .slice none 0 0] 24 (0, 0)) := by rw [← hV8, heap_alloc_eq, if_pos rfl]
  clear hV8
  have D8 := BA.trans (C8.mono BA.size)
  have e8_V8 := d8.below C8
  have hL8_V8 := hL8.below C8 (Nat.le_refl _)
  have HL8_V8 : Shut (∀ y ∈ L8, RecIn V8 y) := ⟨fun y hy => (hL8i y hy).below C8⟩
  have FV8 := FV7.trans (D8.mono FV7.size)
  have GV8 := GV7.trans (D8.mono GV7.size)
  have k1_V8 := blkB k1_V7 D8
  have k2_V8 := blkB k2_V7 D8
  have k3_V8 := blkB k3_V7 D8
  have k4_V8 := blkB k4_V7 D8
  have k5_V8 := blkB k5_V7 D8
  have k6_V8 := blkB k6_V7 D8
  have k7_V8 := blkB k7_V7 D8
  have e1_V8 := e1_V7.below D8
  have e2_V8 := e2_V7.below D8
  have e3_V8 := e3_V7.below D8
  have e4_V8 := e4_V7.below D8
  have e6_V8 := e6_V7.below D8
  have e7_V8 := e7_V7.below D8
  have hLl_V8 := hLl_V7.below D8 (Nat.le_refl _)
  have HLi_V8 : Shut (∀ y ∈ LL, RecIn V8 y) := ⟨fun y hy => (HLi_V7.out y hy).below D8⟩
  clear FV7 GV7 k1_V7 k2_V7 k3_V7 k4_V7 k5_V7 k6_V7 k7_V7 e1_V7 e2_V7 e3_V7 e4_V7 e6_V7 e7_V7 hLl_V7 HLi_V7
  have HM8 := Shut.mk (And.intro hL8q hL8m)
  clear BA C8 D8 d8 hL8 hL8i hL8q hL8m
  have l6 := e6_V8.small (fun h => by have := putCode_short (HZ.out.1.trans h); exact ⟨by omega, by omega⟩)
  have l7 := e7_V8.small (fun _ => ⟨by rw [List.length_append]; omega, by simp⟩)
  have l4 : n4 ≤ maxLen := by have := e4_V8.hn; rw [List.length_take] at this; unfold maxLen; rw [List.length_append] at this; omega
  have l8 : n8 ≤ maxLen := by have := e8_V8.hn; rw [List.length_take] at this; unfold maxLen; rw [List.length_append] at this; omega
  have hS : ∀ (U : World) (X Y : List UInt8) (a b a' b' : Option Addr) (x y x' y' x1 x2 y1 y2 : Nat), DkIn U X Y a x x1 b y y1 → DkIn U X Y a' x' x2 b' y' y2 → x ≤ maxLen → y ≤ maxLen → x' ≤ maxLen → y' ≤ maxLen → Calls Tryz.prog 12 #[.agg #[.slice a x x1, .slice b y y1], .agg #[.slice a' x' x2, .slice b' y' y2]] U fun e w' => e = .returned (.bool true) ∧ Below U.heap.size U w' := fun U X Y a b a' b' x y x' y' x1 x2 y1 y2 h h' g1 g2 g3 g4 => by
    have := sameDR h h' g1 g2 g3 g4
    rw [decide_eq_true ⟨rfl, rfl⟩] at this
    exact this
  have hC := hS V8 _ _ _ _ _ _ _ _ _ _ _ _ _ _ e1_V8 e6_V8 l1.1 l1.2 l6.1 l6.2
  obtain ⟨p0, p1, _, _⟩ := cellsD k1_V8
  obtain ⟨p2, p3, _, _⟩ := cellsD k6_V8
  go_wp2_with fail
  refine hC.mono ?_
  rintro e UB ⟨rfl, B⟩
  clear hC p0 p1 p2 p3
  have FUB := FV8.trans (B.mono FV8.size)
  have GUB := GV8.trans (B.mono GV8.size)
  have k1_UB := blkB k1_V8 B
  have k2_UB := blkB k2_V8 B
  have k3_UB := blkB k3_V8 B
  have k4_UB := blkB k4_V8 B
  have k5_UB := blkB k5_V8 B
  have k6_UB := blkB k6_V8 B
  have k7_UB := blkB k7_V8 B
  have k8_UB := blkB k8_V8 B
  have e1_UB := e1_V8.below B
  have e2_UB := e2_V8.below B
  have e3_UB := e3_V8.below B
  have e4_UB := e4_V8.below B
  have e6_UB := e6_V8.below B
  have e7_UB := e7_V8.below B
  have e8_UB := e8_V8.below B
  have hLl_UB := hLl_V8.below B (Nat.le_refl _)
  have hL8_UB := hL8_V8.below B (Nat.le_refl _)
  have HLi_UB : Shut (∀ y ∈ LL, RecIn UB y) := ⟨fun y hy => (HLi_V8.out y hy).below B⟩
  have HL8_UB : Shut (∀ y ∈ L8, RecIn UB y) := ⟨fun y hy => (HL8_V8.out y hy).below B⟩
  clear FV8 GV8 k1_V8 k2_V8 k3_V8 k4_V8 k5_V8 k6_V8 k7_V8 k8_V8 e1_V8 e2_V8 e3_V8 e4_V8 e6_V8 e7_V8 e8_V8 hLl_V8 hL8_V8 HLi_V8 HL8_V8
  clear B
  have hC := hS UB _ _ _ _ _ _ _ _ _ _ _ _ _ _ e2_UB e7_UB l2.1 l2.2 l7.1 l7.2
  obtain ⟨p0, p1, _, _⟩ := cellsD k2_UB
  obtain ⟨p2, p3, _, _⟩ := cellsD k7_UB
  go_wp2_with fail
  refine hC.mono ?_
  rintro e UC ⟨rfl, B⟩
  clear hC p0 p1 p2 p3
  have FUC := FUB.trans (B.mono FUB.size)
  have GUC := GUB.trans (B.mono GUB.size)
  have k1_UC := blkB k1_UB B
  have k2_UC := blkB k2_UB B
  have k3_UC := blkB k3_UB B
  have k4_UC := blkB k4_UB B
  have k5_UC := blkB k5_UB B
  have k6_UC := blkB k6_UB B
  have k7_UC := blkB k7_UB B
  have k8_UC := blkB k8_UB B
  have e1_UC := e1_UB.below B
  have e2_UC := e2_UB.below B
  have e3_UC := e3_UB.below B
  have e4_UC := e4_UB.below B
  have e6_UC := e6_UB.below B
  have e7_UC := e7_UB.below B
  have e8_UC := e8_UB.below B
  have hLl_UC := hLl_UB.below B (Nat.le_refl _)
  have hL8_UC := hL8_UB.below B (Nat.le_refl _)
  have HLi_UC : Shut (∀ y ∈ LL, RecIn UC y) := ⟨fun y hy => (HLi_UB.out y hy).below B⟩
  have HL8_UC : Shut (∀ y ∈ L8, RecIn UC y) := ⟨fun y hy => (HL8_UB.out y hy).below B⟩
  clear FUB GUB k1_UB k2_UB k3_UB k4_UB k5_UB k6_UB k7_UB k8_UB e1_UB e2_UB e3_UB e4_UB e6_UB e7_UB e8_UB hLl_UB hL8_UB HLi_UB HL8_UB
  clear B
  have hC := hS UC _ _ _ _ _ _ _ _ _ _ _ _ _ _ e4_UC e8_UC l4 (Nat.zero_le _) l8 (Nat.zero_le _)
  obtain ⟨p0, p1, _, _⟩ := cellsD k4_UC
  obtain ⟨p2, p3, _, _⟩ := cellsD k8_UC
  go_wp2_with fail
  refine hC.mono ?_
  rintro e UD ⟨rfl, B⟩
  clear hC p0 p1 p2 p3
  have FUD := FUC.trans (B.mono FUC.size)
  have GUD := GUC.trans (B.mono GUC.size)
  have k1_UD := blkB k1_UC B
  have k2_UD := blkB k2_UC B
  have k3_UD := blkB k3_UC B
  have k4_UD := blkB k4_UC B
  have k5_UD := blkB k5_UC B
  have k6_UD := blkB k6_UC B
  have k7_UD := blkB k7_UC B
  have k8_UD := blkB k8_UC B
  have e1_UD := e1_UC.below B
  have e2_UD := e2_UC.below B
  have e3_UD := e3_UC.below B
  have e4_UD := e4_UC.below B
  have e6_UD := e6_UC.below B
  have e7_UD := e7_UC.below B
  have e8_UD := e8_UC.below B
  have hLl_UD := hLl_UC.below B (Nat.le_refl _)
  have hL8_UD := hL8_UC.below B (Nat.le_refl _)
  have HLi_UD : Shut (∀ y ∈ LL, RecIn UD y) := ⟨fun y hy => (HLi_UC.out y hy).below B⟩
  have HL8_UD : Shut (∀ y ∈ L8, RecIn UD y) := ⟨fun y hy => (HL8_UC.out y hy).below B⟩
  clear FUC GUC k1_UC k2_UC k3_UC k4_UC k5_UC k6_UC k7_UC k8_UC e1_UC e2_UC e3_UC e4_UC e6_UC e7_UC e8_UC hLl_UC hL8_UC HLi_UC HL8_UC
  clear B
  have hEq : Calls Tryz.prog 16 #[.slice lp lq lc, .slice p8 q8 c8, .func (.func 17) #[] #[]] UD fun e w' => e = .returned (.bool true) ∧ Below UD.heap.size UD w' := by
    have hg : Goods (linesL 200 (s ++ v)).1 := (linesL_back _ 200 (s ++ v) (Nat.lt_succ_self _)).1
    have hfew := (linesL_back _ 200 (s ++ v) (Nat.lt_succ_self _)).2.1
    have hsh : ∀ (l : List MRec), l.map MRec.r = (linesL 200 (s ++ v)).1 → ∀ y ∈ l, RecShort y := fun l hl y hy => by
      obtain ⟨a, b⟩ := code_short (hg y.r (by rw [← hl]; exact List.mem_map_of_mem hy)).2
      exact ⟨by unfold maxLen; omega, by unfold maxLen; omega⟩
    have q1 : LL.length ≤ 200 := by have := congrArg List.length HLm2.out.2; rw [List.length_map] at this; omega
    have q2 : L8.length ≤ 200 := by have := congrArg List.length HM8.out.2; rw [List.length_map] at this; omega
    have h := equalRec_any 17 entersSameRec (fun x y w hx hy sx sy => sameRec_any x.r y.r x.da x.dc x.ca x.cc y.da y.dc y.ca y.cc w hx.1 hx.2 hy.1 hy.2 sx.1 sx.2 sy.1 sy.2) lp p8 lc c8 LL L8 UD (by omega) (by omega) hLl_UD hL8_UD (fun y hy => ⟨HLi_UD.out y hy, hsh LL HLm2.out.2 y hy⟩) (fun y hy => ⟨HL8_UD.out y hy, hsh L8 HM8.out.2 y hy⟩)
    rw [HLm2.out.1, HM8.out.1, decide_eq_true (by rw [HLm2.out.2, HM8.out.2])] at h
    exact h
  go_wp2_with fail
  refine hEq.mono ?_
  rintro e UE ⟨rfl, B⟩
  have FE := FUD.trans (B.mono FUD.size)
  have GE := GUD.trans (B.mono GUD.size)
  have k3E := blkB k3_UD B
  have k5E := blkB k5_UD B
  have e3E := e3_UD.below B
  have hbE := blkB hb0 GE
  have hdE := hd.below FE
  clear hEq B FUD GUD hLl_UD hL8_UD HLi_UD HL8_UD k1_UD k2_UD k3_UD k4_UD k5_UD k6_UD k7_UD k8_UD e1_UD e2_UD e3_UD e4_UD e6_UD e7_UD e8_UD l1 l2 l4 l6 l7 l8 hb0 hbr hbx GE hrd hrc hL hi ld hd HLm2 HM8
  have hzc := HZ.out.2.2.1
  rw [crashCode, if_pos HZ.out.2.2.2, ES.out.2] at hzc
  obtain ⟨p0, p1, _, _⟩ := cellsD hbE
  by_cases hr : k < 0 ∨ (m : Int) < k
  · rw [if_pos hr] at hzc
    subst hzc
    rw [if_neg (by decide), if_neg (by decide)] at e3E
    have z5 : n3 = 0 := e3E.hn.symm
    have z6 : m3 = 0 := e3E.hm.symm
    subst z5 z6
    have hC := hS UE _ _ _ _ _ _ _ _ _ _ _ _ _ _ e3E (DkIn.zero UE) (Nat.zero_le _) (Nat.zero_le _) (Nat.zero_le _) (Nat.zero_le _)
    obtain ⟨p2, p3, _, _⟩ := cellsD k3E
    obtain ⟨p4, p5, _, _⟩ := cellsD k5E
    clear hS HZ ES ok hshort l3 e3E hdE hbE k3E k5E
    by_cases hr1 : k < 0
    · clear hr
      go_wp2_with fail
      refine hC.mono ?_
      rintro e UF ⟨rfl, B⟩
      have FF := FE.trans (B.mono FE.size)
      clear hC p0 p1 p2 p3 p4 p5 B
      go_wp2
      go_ret
      exact ⟨rfl, FF⟩
    · have hr2 : (m : Int) < k := by omega
      clear hr
      go_wp2_with fail
      refine hC.mono ?_
      rintro e UF ⟨rfl, B⟩
      have FF := FE.trans (B.mono FE.size)
      clear hC p0 p1 p2 p3 p4 p5 B
      go_wp2
      go_ret
      exact ⟨rfl, FF⟩
  · rw [if_neg hr] at hzc
    subst hzc
    rw [if_pos rfl, if_pos rfl] at e3E
    obtain ⟨kn, rfl⟩ : ∃ kn : Nat, k = kn := ⟨k.toNat, by omega⟩
    have hkn : kn ≤ m := by omega
    rw [Int.toNat_natCast] at e3E
    have hT : DkIn UE s (v.take kn) sa n sc wa kn wc := ⟨hdE.hn, by rw [List.length_take, ES.out.2]; omega, hdE.hsc, by have := hdE.hwc; omega, hdE.ls, lies_takeB kn hdE.lv⟩
    have hkw : kn ≤ wc := hT.hwc
    have lnm : n ≤ maxLen := by unfold maxLen; omega
    have lkm : kn ≤ maxLen := by unfold maxLen; omega
    have r1 : ¬ (kn : Int) < 0 := by omega
    have r2 : ¬ (m : Int) < (kn : Int) := by omega
    have r3 : ¬ m < kn := by omega
    have r4 : (0 : Int) ≤ (kn : Int) := by omega
    have r5 : (kn : Int) ≤ (wc : Int) := by omega
    have cS : ∀ u : Above UE, Calls Tryz.prog 12 #[.agg #[.slice a3 n3 s3, .slice b3 m3 t3], .agg #[.slice sa n sc, .slice wa kn wc]] u.w fun e w' => e = .returned (.bool true) ∧ Below u.w.heap.size u.w w' := fun u => hS u.w _ _ _ _ _ _ _ _ _ _ _ _ _ _ (e3E.below u.below) (hT.below u.below) l3.1 l3.2 lnm lkm
    obtain ⟨g2, g3, _, _⟩ := cellsD k3E
    have y0 : ∀ u : Above UE, u.w.cell? ⟨w.heap.size, 0, none⟩ = some (.slice sa n sc) := fun u => Above.cell p0 u
    have y1 : ∀ u : Above UE, u.w.cell? ⟨w.heap.size, 1, none⟩ = some (.slice wa m wc) := fun u => Above.cell p1 u
    have y2 : ∀ u : Above UE, u.w.cell? ⟨U3.heap.size, 0, none⟩ = some (.slice a3 n3 s3) := fun u => Above.cell g2 u
    have y3 : ∀ u : Above UE, u.w.cell? ⟨U3.heap.size, 1, none⟩ = some (.slice b3 m3 t3) := fun u => Above.cell g3 u
    clear hS HZ ES ok hshort l3 hdE hbE k3E k5E hr hT e3E
    go_upto_region 18 with fail
    refine wp_region_above (by kernel_rfl) (by kernel_rfl) ?_
    iterate 14 (go_big_quiet_step (first | rfl | (go_at_call 12; exact Calls.above (cS _))))
    refine wpQuiet_nil ?_
    rintro _ ⟨u, rfl⟩
    have FF := FE.trans (u.below.mono FE.size)
    clear cS y0 y1 y2 y3 p0 p1 g2 g3
    go_wp2
    go_ret
    exact ⟨rfl, FF⟩

end Go.Proofs.YtekdigbdfeamkaaGreatDoor

/-
  What came in, opened: byte slices and slices of byte slices, whatever their readings are. Nothing of any program.
-/
namespace Go.Proofs.YtekdigbdfeamkaaGreatDoor
open Go.ChangeShapes Go.WideShapes Go.ChangeAt Go.RowKit
set_option linter.unusedVariables false
set_option linter.unusedSimpArgs false

section
variable {H : Type} {enc : TypeId × Value → H} {P : Program} {w : World} {held : Bool}

theorem u8_of_wf {n : Int} (h : (Lit.int .u8 n).wf = true) : 0 ≤ n ∧ n < 256 := by
  have : 0 ≤ n ∧ n ≤ 255 := by simpa [Lit.wf, IntKind.min, IntKind.max, IntKind.signed, IntKind.bits] using h
  omega

/-- an address of cells has no spot of its own -/
theorem lies_addr {a : Addr} {k : Nat} {u u0 : Value} (h0 : w.cell? (a.add 0) = some u0) (hk : w.cell? (a.add k) = some u) : ∃ b off, some a = some (⟨b, off, none⟩ : Addr) ∧ w.cell? ⟨b, off + k, none⟩ = some u := by
  obtain ⟨b, off, spot⟩ := a
  have hspot : spot = none := by simpa [Addr.add] using World.cell?_spot h0
  subst hspot
  exact ⟨b, off, rfl, by simpa [Addr.add_lit] using hk⟩

theorem open_bytes {t e : TypeId} {fuel : Nat} {v : Value} {x : DataW H × List MemPlace} (ht : P.underlying t = some (.slice e)) (he : P.underlying e = some (.int .u8)) (hc : P.cellsOf e = 1)
    (h : DataW.trod enc P w 0 (fun _ => true) held fuel t [v] = some x) : ∃ a cap l, v = .slice a l.length cap ∧ Lies w a (bs l) ∧ l.length ≤ maxLen := by
  rcases open_ints ht he hc h with ⟨hcs, _⟩ | ⟨a, len, cap, zs, hcs, _, hl, hm, hz, _, hcell, hwz⟩
  · simp at hcs
    subst hcs
    exact ⟨none, 0, [], rfl, Lies.nil _ _, by simp⟩
  · simp at hcs hz
    subst hcs
    refine ⟨some a, cap, (zs.take len).map fun z => UInt8.ofNat z.toNat, ?_, ?_, ?_⟩
    · simp; omega
    · intro k u hu
      have hk : k < len := by
        obtain ⟨hk, _⟩ := List.getElem?_eq_some_iff.1 hu
        simp [bs] at hk
        omega
      have hkz : k < zs.length := by omega
      have hcl := hcell k hkz
      have hwf := u8_of_wf (hwz zs[k] (by simp))
      have hu' : u = .int .u8 (zs[k]) := by
        simp [bs, hk, hkz] at hu
        rw [← hu]
        congr 1
        omega
      subst hu'
      have e2 : zs.getD k 0 = zs[k] := by simp [List.getD, hkz]
      rw [e2] at hcl
      exact lies_addr (hcell 0 (by omega)) hcl
    · simp; omega

theorem open_blocks {t e e8 : TypeId} {fuel : Nat} {v : Value} {d : DataW H} {ps : List MemPlace} (ht : P.underlying t = some (.slice e)) (hte : P.underlying e = some (.slice e8)) (he : P.underlying e8 = some (.int .u8)) (hc : P.cellsOf e = 1) (hc8 : P.cellsOf e8 = 1)
    (h : DataW.trod enc P w 0 (fun _ => true) held fuel t [v] = some (d, ps)) :
    ∃ a cap bl, v = .slice a bl.length cap ∧ Lies w a (bl.map Blk.val) ∧ AllIn w bl ∧ bl.length ≤ maxLen ∧ ((d = .nil ∧ bl = []) ∨ ∃ elems sp, d = .slice elems sp ∧ elems.length = bl.length) := by
  rcases Go.Deep.open_slice1 ht hc h with ⟨hcs, hx⟩ | ⟨a, len, cap, m, n, V, D, Pl, hcs, _, hl, hm, hmm, hx, hcell⟩
  · simp at hcs hx
    subst hcs
    exact ⟨none, 0, [], rfl, Lies.nil _ _, (fun b hb => by simp at hb), by simp, .inl ⟨hx.1, rfl⟩⟩
  · simp at hcs hx hmm
    subst hcs hmm
    have hb : ∀ i, i < m → ∃ b : Blk, V i = b.val ∧ Lies w b.a (bs b.l) ∧ b.l.length ≤ maxLen := fun i hi => by
      obtain ⟨a', cap', l, e1, e2, e3⟩ := open_bytes hte he hc8 (hcell i hi).2
      exact ⟨⟨a', cap', l⟩, e1, e2, e3⟩
    have : Inhabited Blk := ⟨⟨none, 0, []⟩⟩
    obtain ⟨B, hB⟩ := Go.Deep.choose_lt hb
    refine ⟨some a, m, (List.range len).map B, by simp, ?_, ?_, by simp; omega, .inr ⟨_, _, hx.1, by simp⟩⟩
    · intro k u hu
      have hk : k < len := by
        obtain ⟨hk, _⟩ := List.getElem?_eq_some_iff.1 hu
        simpa using hk
      have hu' : u = V k := by
        simp [hk] at hu
        rw [← hu, (hB k (by omega)).1]
      subst hu'
      exact lies_addr (hcell 0 (by omega)).1 (hcell k (by omega)).1
    · intro b hb
      obtain ⟨i, hi, rfl⟩ := List.mem_map.1 hb
      exact (hB i (by simp at hi; omega)).2
end
end Go.Proofs.YtekdigbdfeamkaaGreatDoor
