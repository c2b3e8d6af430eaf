import Derived.Test.YtakkajjoeimkdaaGreatDoorPart28
import Derived.Test.YtakkajjoeimkdaaGreatDoorPart20
namespace Go.Proofs.YtakkajjoeimkdaaGreatDoor
open Go.RowKit
set_option linter.unusedVariables false
set_option linter.unusedSimpArgs false
attribute [local go_sem ↓] Go.wp_at_zero Go.wp_at_succ

set_option maxHeartbeats 8000000 in
set_option maxRecDepth 8000 in
theorem do_given (B gp : Nat) (P : Pl) (L : List MKp) (p : Option Addr) (cp : Nat) (r : Rc) (da : Option Addr) (dc : Nat) (ca : Option Addr) (cc : Nat) (w : World) (hP : PlAt w B gp P.me P.tm P.sq P.kp L p cp) (hOk : PlOk P) (hr : r.code = 0) (hi : r.ints) (hsz : r.d.length ≤ 65536 ∧ r.c.length ≤ 65536) (hU : ∀ u, Below B w u → Lies u da (bs r.d) ∧ Lies u ca (bs r.c) ∧ Laid u) (hkd : r.k = 5) :
  Calls Tryz.prog 36 #[.pointer (some ⟨gp, 0, none⟩), rcV r da dc ca cc] w fun e w' => e = .returned (.int .i64 (P.does r).1) ∧ Shut (DoR B gp w (P.does r).1 (P.does r).2 w') := by
 have hBw : B ≤ w.heap.size := by have := hP.lo; have := hP.lt; omega
 obtain ⟨W, hW⟩ : ∃ W, w.alloc (.cells #[.int .i64 r.k, .int .i64 r.p, .int .i64 r.n, .int .i64 r.y, .int .i64 r.h.F, .int .i64 r.h.Q, .int .i64 r.h.T, .int .i64 r.h.L, .int .i64 r.h.B, .int .i64 r.h.K, .int .i64 r.id, .slice da r.d.length dc, .slice ca r.c.length cc] 40) = W := ⟨_, rfl⟩
 have hb : Below w.heap.size w W := by rw [← hW]; exact (Below.refl _ _).alloc (Nat.le_refl _) _
 have hk : W.heap[w.heap.size]? = some (.cells #[.int .i64 r.k, .int .i64 r.p, .int .i64 r.n, .int .i64 r.y, .int .i64 r.h.F, .int .i64 r.h.Q, .int .i64 r.h.T, .int .i64 r.h.L, .int .i64 r.h.B, .int .i64 r.h.K, .int .i64 r.id, .slice da r.d.length dc, .slice ca r.c.length cc] 40 (0, 0)) := by rw [← hW, heap_alloc_eq, if_pos rfl]
 have hPW := hP.below hb
 have hbB : Below B w W := hb.mono hBw
 have HW := Shut.mk hW
 have HK := Shut.mk hkd
 obtain ⟨a0, a1, a2, a3, a4, a5, a6, a7, a8, a9, a10, a11, a12⟩ := rcBox hk
 have e1 : (r.k == 1) = false := by rw [hkd]; rfl
 have e8 : (r.k == 8) = false := by rw [hkd]; rfl
 have e2 : (r.k == 2) = false := by rw [hkd]; rfl
 have e3 : (r.k == 3) = false := by rw [hkd]; rfl
 have e4 : (r.k == 4) = false := by rw [hkd]; rfl
 have e5 : (r.k == 5) = true := by rw [hkd]; rfl
 have e6 : (r.k == 6) = false := by rw [hkd]; rfl
 have k1 : r.k ≠ 1 := by rw [hkd]; decide
 have k8 : r.k ≠ 8 := by rw [hkd]; decide
 have hBn := bundleOf_any B gp P L p cp r da dc ca cc W hPW hOk.few
 simp only [rcV] at hBn
 obtain ⟨z, hz⟩ : ∃ z, (P.bundle r).1 = z := ⟨_, rfl⟩
 rw [hz] at hBn
 have G := Shut.mk (And.intro hz (And.intro hOk (And.intro hr (And.intro k1 (And.intro k8 (And.intro hP (And.intro hk (And.intro hb (And.intro hbB (And.intro hi (And.intro hsz (And.intro hU hPW))))))))))))
 clear hW hk hP hPW hbB hi hsz hU hkd hz hOk hr k1 k8 hb hBw
 unfold rcV
 go_enter Tryz.func36, Tryz.ntmps36
 go_upto_region 1 with fail
 rw [HW.out]
 clear HW
 go_wp2_with fail
 refine hBn.mono ?_
 rintro e W1 ⟨a, rfl, HBn⟩
 clear hBn a0 a1 a2 a3 a4 a5 a6 a7 a8 a9 a10 a11 a12
 rcases eqDec z 0 with ⟨z1, z2, z3, z4⟩ | ⟨z1, z2, z3, z4⟩
 case inr =>
  have HR := Shut.mk (show P.does r = (z, P) from by unfold Pl.does; rw [if_neg G.out.2.2.2.1, if_neg G.out.2.2.2.2.1, if_pos (by rw [G.out.1]; exact z1), G.out.1])
  have R : Shut (DoR B gp w z P W1) := ⟨G.out.2.2.2.2.2.2.2.2.1.trans HBn.out.1, fun e => absurd e z1⟩
  clear z1
  go_wp2
  go_ret
  rw [HR.out]
  exact ⟨rfl, R⟩
 case inl =>
  subst z1
  obtain ⟨L', g', cp', rfl, hP1⟩ := HBn.out.2.2 rfl
  obtain ⟨k, hk0, hKok, hkh⟩ := bundle_good G.out.2.1 G.out.2.2.1 G.out.2.2.2.2.1 G.out.1
  have hdo := does_of G.out.2.2.2.1 G.out.2.2.2.2.1 G.out.1 hk0
  generalize (P.bundle r).2.1 = lb at hP1 hk0 hdo
  generalize (P.bundle r).2.2 = ib at hP1 hk0 hdo
  obtain ⟨m, hm, rfl⟩ : ∃ m, L'[ib]? = some m ∧ m.k = k := by
   rw [← hP1.pl.says, List.getElem?_map] at hk0
   cases hL' : L'[ib]? with
   | none => rw [hL'] at hk0; cases hk0
   | some m => rw [hL'] at hk0; exact ⟨m, rfl, Option.some.inj hk0⟩
  have hbW1 : Below B w W1 := G.out.2.2.2.2.2.2.2.2.1.trans HBn.out.1
  have hk1 : W1.heap[w.heap.size]? = some (.cells #[.int .i64 r.k, .int .i64 r.p, .int .i64 r.n, .int .i64 r.y, .int .i64 r.h.F, .int .i64 r.h.Q, .int .i64 r.h.T, .int .i64 r.h.L, .int .i64 r.h.B, .int .i64 r.h.K, .int .i64 r.id, .slice da r.d.length dc, .slice ca r.c.length cc] 40 (0, 0)) := (HBn.out.2.1 w.heap.size (Array.getElem?_eq_some_iff.1 G.out.2.2.2.2.2.2.1).1 (by have := G.out.2.2.2.2.2.1.lt; omega) (fun o e => by have := (G.out.2.2.2.2.2.1.pl.own.lt w.heap.size (by rw [e]; rfl)).2; omega)).trans G.out.2.2.2.2.2.2.1
  have J := Shut.mk (And.intro hP1 (And.intro hm (And.intro hKok (And.intro hkh (And.intro hbW1 hk1)))))
  obtain ⟨a0, a1, a2, a3, a4, a5, a6, a7, a8, a9, a10, a11, a12⟩ := rcBox hk1
  clear HBn hk0
  have hat := meth hP1 hm
  obtain ⟨post0, hA0, _⟩ := hat
  have c0 : W1.cell? ⟨g', ib * 16, none⟩ = some (.int .i64 m.k.h.F) := hA0.cell 0 _ rfl
  have c1 : W1.cell? ⟨g', ib * 16 + 1, none⟩ = some (.int .i64 m.k.h.Q) := hA0.cell 1 _ rfl
  have c2 : W1.cell? ⟨g', ib * 16 + 2, none⟩ = some (.int .i64 m.k.h.T) := hA0.cell 2 _ rfl
  have c3 : W1.cell? ⟨g', ib * 16 + 3, none⟩ = some (.int .i64 m.k.h.L) := hA0.cell 3 _ rfl
  have c4 : W1.cell? ⟨g', ib * 16 + 4, none⟩ = some (.int .i64 m.k.h.B) := hA0.cell 4 _ rfl
  have c5 : W1.cell? ⟨g', ib * 16 + 5, none⟩ = some (.int .i64 m.k.h.K) := hA0.cell 5 _ rfl
  have c6 : W1.cell? ⟨g', ib * 16 + 6, none⟩ = some (.bool m.k.own) := hA0.cell 6 _ rfl
  have c7 : W1.cell? ⟨g', ib * 16 + 7, none⟩ = some (.slice m.ca m.k.c.length m.cc) := hA0.cell 7 _ rfl
  have c8 : W1.cell? ⟨g', ib * 16 + 8, none⟩ = some (.slice m.ya m.ys.length m.yc) := hA0.cell 8 _ rfl
  have c9 : W1.cell? ⟨g', ib * 16 + 9, none⟩ = some (.int .i64 m.k.sh) := hA0.cell 9 _ rfl
  have c10 : W1.cell? ⟨g', ib * 16 + 10, none⟩ = some (.int .i64 m.k.gv) := hA0.cell 10 _ rfl
  have c11 : W1.cell? ⟨g', ib * 16 + 11, none⟩ = some (.int .i64 m.k.tw) := hA0.cell 11 _ rfl
  have c12 : W1.cell? ⟨g', ib * 16 + 12, none⟩ = some (.int .i64 m.k.tr) := hA0.cell 12 _ rfl
  have c13 : W1.cell? ⟨g', ib * 16 + 13, none⟩ = some (.slice m.ta m.k.tk.length m.tc) := hA0.cell 13 _ rfl
  have c14 : W1.cell? ⟨g', ib * 16 + 14, none⟩ = some (.bool m.k.dl) := hA0.cell 14 _ rfl
  have c15 : W1.cell? ⟨g', ib * 16 + 15, none⟩ = some (.bool m.k.pg) := hA0.cell 15 _ rfl
  have hD := isDone_any m W1
  simp only [MKp.val] at hD
  clear hP1 hm hKok hkh hk1 hbW1
  go_wp2_with fail
  refine hD.mono ?_
  rintro e W2 ⟨rfl, hb2⟩
  have hP2 := J.out.1.below hb2
  have hk2 := blkB J.out.2.2.2.2.2 hb2
  have hbW2 : Below B w W2 := J.out.2.2.2.2.1.trans (hb2.mono (by have := J.out.1.lo; have := J.out.1.lt; omega))
  have Q := Shut.mk (And.intro hP2 (And.intro hk2 hbW2))
  clear hD hb2 hA0 c0 c1 c2 c3 c4 c5 c6 c7 c8 c9 c10 c11 c12 c13 c14 c15 a0 a1 a2 a3 a4 a5 a6 a7 a8 a9 a10 a11 a12
  obtain ⟨a0, a1, a2, a3, a4, a5, a6, a7, a8, a9, a10, a11, a12⟩ := rcBox hk2
  have hOkk := J.out.2.2.1
  have hsh := (shares_zero.1 hOkk.shares).1
  by_cases pd : m.k.done = true
  case pos =>
   have HR := Shut.mk (hdo.trans (show _ = ((7 : Int), (⟨P.me, lb.set ib m.k, P.tm, P.sq⟩ : Pl)) from by
    have : m.k.does P.me r = (7, m.k) := by unfold Kp.does; rw [if_neg (by rw [HK.out]; decide), if_neg (by rw [HK.out]; decide), if_pos pd]
    rw [this]))
   rw [pd]
   have R : Shut (DoR B gp w 7 ⟨P.me, lb.set ib m.k, P.tm, P.sq⟩ W2) := ⟨hbW2, fun e => absurd e (by decide)⟩
   clear pd hdo hP2 hk2
   go_wp2
   go_ret
   rw [HR.out]
   exact ⟨rfl, R⟩
  case neg =>
   have pd' : m.k.done = false := by simpa using pd
   rw [pd']
   obtain ⟨post, hA, hN, hf, hgr, hg, hBs, hDo⟩ := meth hP2 J.out.2.1
   have hde : m.k.does P.me r = m.k.given r.y := by unfold Kp.does; rw [if_neg (by rw [HK.out]; decide), if_neg (by rw [HK.out]; decide), if_neg pd, if_neg (by rw [HK.out]; decide), if_pos HK.out]
   rw [hde] at hdo
   have HR := Shut.mk hdo
   have hS := given_any m r.y g' (ib * 16) (kpCells (L'.take ib)) post W2 hA
   have HD : Shut (∀ w', DoesR W2 g' (ib * 16) (kpCells (L'.take ib)) post (m.k.given r.y).1 { m with k := (m.k.given r.y).2 } w' → DoR B gp W2 (m.k.given r.y).1 ⟨P.me, lb.set ib (m.k.given r.y).2, P.tm, P.sq⟩ w') := ⟨fun w' h => hDo _ _ _ (h.grows hN hf hgr hg hBs (by unfold Kp.given; split <;> rfl) (by unfold Kp.given; split <;> rfl) (by unfold Kp.given; split <;> rfl))⟩
   clear pd pd' hdo hde hP2 hk2 hbW2 hA hN hf hgr hg hBs hDo hOkk hsh
   go_wp2_with fail
   refine hS.mono ?_
   rintro e W5 ⟨rfl, HS⟩
   clear hS a0 a1 a2 a3 a4 a5 a6 a7 a8 a9 a10 a11 a12
   go_wp2
   go_ret
   rw [HR.out]
   exact ⟨rfl, ⟨(HD.out _ HS.out).up Q.out.2.2⟩⟩

set_option maxHeartbeats 8000000 in
set_option maxRecDepth 8000 in
theorem do_take (B gp : Nat) (P : Pl) (L : List MKp) (p : Option Addr) (cp : Nat) (r : Rc) (da : Option Addr) (dc : Nat) (ca : Option Addr) (cc : Nat) (w : World) (hP : PlAt w B gp P.me P.tm P.sq P.kp L p cp) (hOk : PlOk P) (hr : r.code = 0) (hi : r.ints) (hsz : r.d.length ≤ 65536 ∧ r.c.length ≤ 65536) (hU : ∀ u, Below B w u → Lies u da (bs r.d) ∧ Lies u ca (bs r.c) ∧ Laid u) (hkd : r.k = 6) :
  Calls Tryz.prog 36 #[.pointer (some ⟨gp, 0, none⟩), rcV r da dc ca cc] w fun e w' => e = .returned (.int .i64 (P.does r).1) ∧ Shut (DoR B gp w (P.does r).1 (P.does r).2 w') := by
 have hBw : B ≤ w.heap.size := by have := hP.lo; have := hP.lt; omega
 obtain ⟨W, hW⟩ : ∃ W, w.alloc (.cells #[.int .i64 r.k, .int .i64 r.p, .int .i64 r.n, .int .i64 r.y, .int .i64 r.h.F, .int .i64 r.h.Q, .int .i64 r.h.T, .int .i64 r.h.L, .int .i64 r.h.B, .int .i64 r.h.K, .int .i64 r.id, .slice da r.d.length dc, .slice ca r.c.length cc] 40) = W := ⟨_, rfl⟩
 have hb : Below w.heap.size w W := by rw [← hW]; exact (Below.refl _ _).alloc (Nat.le_refl _) _
 have hk : W.heap[w.heap.size]? = some (.cells #[.int .i64 r.k, .int .i64 r.p, .int .i64 r.n, .int .i64 r.y, .int .i64 r.h.F, .int .i64 r.h.Q, .int .i64 r.h.T, .int .i64 r.h.L, .int .i64 r.h.B, .int .i64 r.h.K, .int .i64 r.id, .slice da r.d.length dc, .slice ca r.c.length cc] 40 (0, 0)) := by rw [← hW, heap_alloc_eq, if_pos rfl]
 have hPW := hP.below hb
 have hbB : Below B w W := hb.mono hBw
 have HW := Shut.mk hW
 have HK := Shut.mk hkd
 obtain ⟨a0, a1, a2, a3, a4, a5, a6, a7, a8, a9, a10, a11, a12⟩ := rcBox hk
 have e1 : (r.k == 1) = false := by rw [hkd]; rfl
 have e8 : (r.k == 8) = false := by rw [hkd]; rfl
 have e2 : (r.k == 2) = false := by rw [hkd]; rfl
 have e3 : (r.k == 3) = false := by rw [hkd]; rfl
 have e4 : (r.k == 4) = false := by rw [hkd]; rfl
 have e5 : (r.k == 5) = false := by rw [hkd]; rfl
 have e6 : (r.k == 6) = true := by rw [hkd]; rfl
 have k1 : r.k ≠ 1 := by rw [hkd]; decide
 have k8 : r.k ≠ 8 := by rw [hkd]; decide
 have hBn := bundleOf_any B gp P L p cp r da dc ca cc W hPW hOk.few
 simp only [rcV] at hBn
 obtain ⟨z, hz⟩ : ∃ z, (P.bundle r).1 = z := ⟨_, rfl⟩
 rw [hz] at hBn
 have G := Shut.mk (And.intro hz (And.intro hOk (And.intro hr (And.intro k1 (And.intro k8 (And.intro hP (And.intro hk (And.intro hb (And.intro hbB (And.intro hi (And.intro hsz (And.intro hU hPW))))))))))))
 clear hW hk hP hPW hbB hi hsz hU hkd hz hOk hr k1 k8 hb hBw
 unfold rcV
 go_enter Tryz.func36, Tryz.ntmps36
 go_upto_region 1 with fail
 rw [HW.out]
 clear HW
 go_wp2_with fail
 refine hBn.mono ?_
 rintro e W1 ⟨a, rfl, HBn⟩
 clear hBn a0 a1 a2 a3 a4 a5 a6 a7 a8 a9 a10 a11 a12
 rcases eqDec z 0 with ⟨z1, z2, z3, z4⟩ | ⟨z1, z2, z3, z4⟩
 case inr =>
  have HR := Shut.mk (show P.does r = (z, P) from by unfold Pl.does; rw [if_neg G.out.2.2.2.1, if_neg G.out.2.2.2.2.1, if_pos (by rw [G.out.1]; exact z1), G.out.1])
  have R : Shut (DoR B gp w z P W1) := ⟨G.out.2.2.2.2.2.2.2.2.1.trans HBn.out.1, fun e => absurd e z1⟩
  clear z1
  go_wp2
  go_ret
  rw [HR.out]
  exact ⟨rfl, R⟩
 case inl =>
  subst z1
  obtain ⟨L', g', cp', rfl, hP1⟩ := HBn.out.2.2 rfl
  obtain ⟨k, hk0, hKok, hkh⟩ := bundle_good G.out.2.1 G.out.2.2.1 G.out.2.2.2.2.1 G.out.1
  have hdo := does_of G.out.2.2.2.1 G.out.2.2.2.2.1 G.out.1 hk0
  generalize (P.bundle r).2.1 = lb at hP1 hk0 hdo
  generalize (P.bundle r).2.2 = ib at hP1 hk0 hdo
  obtain ⟨m, hm, rfl⟩ : ∃ m, L'[ib]? = some m ∧ m.k = k := by
   rw [← hP1.pl.says, List.getElem?_map] at hk0
   cases hL' : L'[ib]? with
   | none => rw [hL'] at hk0; cases hk0
   | some m => rw [hL'] at hk0; exact ⟨m, rfl, Option.some.inj hk0⟩
  have hbW1 : Below B w W1 := G.out.2.2.2.2.2.2.2.2.1.trans HBn.out.1
  have hk1 : W1.heap[w.heap.size]? = some (.cells #[.int .i64 r.k, .int .i64 r.p, .int .i64 r.n, .int .i64 r.y, .int .i64 r.h.F, .int .i64 r.h.Q, .int .i64 r.h.T, .int .i64 r.h.L, .int .i64 r.h.B, .int .i64 r.h.K, .int .i64 r.id, .slice da r.d.length dc, .slice ca r.c.length cc] 40 (0, 0)) := (HBn.out.2.1 w.heap.size (Array.getElem?_eq_some_iff.1 G.out.2.2.2.2.2.2.1).1 (by have := G.out.2.2.2.2.2.1.lt; omega) (fun o e => by have := (G.out.2.2.2.2.2.1.pl.own.lt w.heap.size (by rw [e]; rfl)).2; omega)).trans G.out.2.2.2.2.2.2.1
  have J := Shut.mk (And.intro hP1 (And.intro hm (And.intro hKok (And.intro hkh (And.intro hbW1 hk1)))))
  obtain ⟨a0, a1, a2, a3, a4, a5, a6, a7, a8, a9, a10, a11, a12⟩ := rcBox hk1
  clear HBn hk0
  have hat := meth hP1 hm
  obtain ⟨post0, hA0, _⟩ := hat
  have c0 : W1.cell? ⟨g', ib * 16, none⟩ = some (.int .i64 m.k.h.F) := hA0.cell 0 _ rfl
  have c1 : W1.cell? ⟨g', ib * 16 + 1, none⟩ = some (.int .i64 m.k.h.Q) := hA0.cell 1 _ rfl
  have c2 : W1.cell? ⟨g', ib * 16 + 2, none⟩ = some (.int .i64 m.k.h.T) := hA0.cell 2 _ rfl
  have c3 : W1.cell? ⟨g', ib * 16 + 3, none⟩ = some (.int .i64 m.k.h.L) := hA0.cell 3 _ rfl
  have c4 : W1.cell? ⟨g', ib * 16 + 4, none⟩ = some (.int .i64 m.k.h.B) := hA0.cell 4 _ rfl
  have c5 : W1.cell? ⟨g', ib * 16 + 5, none⟩ = some (.int .i64 m.k.h.K) := hA0.cell 5 _ rfl
  have c6 : W1.cell? ⟨g', ib * 16 + 6, none⟩ = some (.bool m.k.own) := hA0.cell 6 _ rfl
  have c7 : W1.cell? ⟨g', ib * 16 + 7, none⟩ = some (.slice m.ca m.k.c.length m.cc) := hA0.cell 7 _ rfl
  have c8 : W1.cell? ⟨g', ib * 16 + 8, none⟩ = some (.slice m.ya m.ys.length m.yc) := hA0.cell 8 _ rfl
  have c9 : W1.cell? ⟨g', ib * 16 + 9, none⟩ = some (.int .i64 m.k.sh) := hA0.cell 9 _ rfl
  have c10 : W1.cell? ⟨g', ib * 16 + 10, none⟩ = some (.int .i64 m.k.gv) := hA0.cell 10 _ rfl
  have c11 : W1.cell? ⟨g', ib * 16 + 11, none⟩ = some (.int .i64 m.k.tw) := hA0.cell 11 _ rfl
  have c12 : W1.cell? ⟨g', ib * 16 + 12, none⟩ = some (.int .i64 m.k.tr) := hA0.cell 12 _ rfl
  have c13 : W1.cell? ⟨g', ib * 16 + 13, none⟩ = some (.slice m.ta m.k.tk.length m.tc) := hA0.cell 13 _ rfl
  have c14 : W1.cell? ⟨g', ib * 16 + 14, none⟩ = some (.bool m.k.dl) := hA0.cell 14 _ rfl
  have c15 : W1.cell? ⟨g', ib * 16 + 15, none⟩ = some (.bool m.k.pg) := hA0.cell 15 _ rfl
  have hD := isDone_any m W1
  simp only [MKp.val] at hD
  clear hP1 hm hKok hkh hk1 hbW1
  go_wp2_with fail
  refine hD.mono ?_
  rintro e W2 ⟨rfl, hb2⟩
  have hP2 := J.out.1.below hb2
  have hk2 := blkB J.out.2.2.2.2.2 hb2
  have hbW2 : Below B w W2 := J.out.2.2.2.2.1.trans (hb2.mono (by have := J.out.1.lo; have := J.out.1.lt; omega))
  have Q := Shut.mk (And.intro hP2 (And.intro hk2 hbW2))
  clear hD hb2 hA0 c0 c1 c2 c3 c4 c5 c6 c7 c8 c9 c10 c11 c12 c13 c14 c15 a0 a1 a2 a3 a4 a5 a6 a7 a8 a9 a10 a11 a12
  obtain ⟨a0, a1, a2, a3, a4, a5, a6, a7, a8, a9, a10, a11, a12⟩ := rcBox hk2
  have hOkk := J.out.2.2.1
  have hsh := (shares_zero.1 hOkk.shares).1
  by_cases pd : m.k.done = true
  case pos =>
   have HR := Shut.mk (hdo.trans (show _ = ((7 : Int), (⟨P.me, lb.set ib m.k, P.tm, P.sq⟩ : Pl)) from by
    have : m.k.does P.me r = (7, m.k) := by unfold Kp.does; rw [if_neg (by rw [HK.out]; decide), if_neg (by rw [HK.out]; decide), if_pos pd]
    rw [this]))
   rw [pd]
   have R : Shut (DoR B gp w 7 ⟨P.me, lb.set ib m.k, P.tm, P.sq⟩ W2) := ⟨hbW2, fun e => absurd e (by decide)⟩
   clear pd hdo hP2 hk2
   go_wp2
   go_ret
   rw [HR.out]
   exact ⟨rfl, R⟩
  case neg =>
   have pd' : m.k.done = false := by simpa using pd
   rw [pd']
   obtain ⟨post, hA, hN, hf, hgr, hg, hBs, hDo⟩ := meth hP2 J.out.2.1
   have hde : m.k.does P.me r = m.k.take r.p r.n r.y := by unfold Kp.does; rw [if_neg (by rw [HK.out]; decide), if_neg (by rw [HK.out]; decide), if_neg pd, if_neg (by rw [HK.out]; decide), if_neg (by rw [HK.out]; decide), if_pos HK.out]
   rw [hde] at hdo
   have HR := Shut.mk hdo
   have hS := take_any B m r da dc ca cc g' (ib * 16) (kpCells (L'.take ib)) post W2 hA hN hf hgr hg (by have := (rc_facts G.out.2.2.1).2.1.2.2; omega)
   simp only [rcV] at hS
   have HD := Shut.mk hDo
   clear pd pd' hdo hde hP2 hk2 hbW2 hA hN hf hgr hg hBs hDo hOkk hsh
   go_wp2_with fail
   refine hS.mono ?_
   rintro e W5 ⟨rfl, HS⟩
   clear hS a0 a1 a2 a3 a4 a5 a6 a7 a8 a9 a10 a11 a12
   go_wp2
   go_ret
   rw [HR.out]
   exact ⟨rfl, ⟨(HD.out _ _ _ HS.out).up Q.out.2.2⟩⟩

set_option maxHeartbeats 8000000 in
set_option maxRecDepth 8000 in
theorem do_purge (B gp : Nat) (P : Pl) (L : List MKp) (p : Option Addr) (cp : Nat) (r : Rc) (da : Option Addr) (dc : Nat) (ca : Option Addr) (cc : Nat) (w : World) (hP : PlAt w B gp P.me P.tm P.sq P.kp L p cp) (hOk : PlOk P) (hr : r.code = 0) (hi : r.ints) (hsz : r.d.length ≤ 65536 ∧ r.c.length ≤ 65536) (hU : ∀ u, Below B w u → Lies u da (bs r.d) ∧ Lies u ca (bs r.c) ∧ Laid u) (hkd : r.k = 7) :
  Calls Tryz.prog 36 #[.pointer (some ⟨gp, 0, none⟩), rcV r da dc ca cc] w fun e w' => e = .returned (.int .i64 (P.does r).1) ∧ Shut (DoR B gp w (P.does r).1 (P.does r).2 w') := by
 have hBw : B ≤ w.heap.size := by have := hP.lo; have := hP.lt; omega
 obtain ⟨W, hW⟩ : ∃ W, w.alloc (.cells #[.int .i64 r.k, .int .i64 r.p, .int .i64 r.n, .int .i64 r.y, .int .i64 r.h.F, .int .i64 r.h.Q, .int .i64 r.h.T, .int .i64 r.h.L, .int .i64 r.h.B, .int .i64 r.h.K, .int .i64 r.id, .slice da r.d.length dc, .slice ca r.c.length cc] 40) = W := ⟨_, rfl⟩
 have hb : Below w.heap.size w W := by rw [← hW]; exact (Below.refl _ _).alloc (Nat.le_refl _) _
 have hk : W.heap[w.heap.size]? = some (.cells #[.int .i64 r.k, .int .i64 r.p, .int .i64 r.n, .int .i64 r.y, .int .i64 r.h.F, .int .i64 r.h.Q, .int .i64 r.h.T, .int .i64 r.h.L, .int .i64 r.h.B, .int .i64 r.h.K, .int .i64 r.id, .slice da r.d.length dc, .slice ca r.c.length cc] 40 (0, 0)) := by rw [← hW, heap_alloc_eq, if_pos rfl]
 have hPW := hP.below hb
 have hbB : Below B w W := hb.mono hBw
 have HW := Shut.mk hW
 have HK := Shut.mk hkd
 obtain ⟨a0, a1, a2, a3, a4, a5, a6, a7, a8, a9, a10, a11, a12⟩ := rcBox hk
 have e1 : (r.k == 1) = false := by rw [hkd]; rfl
 have e8 : (r.k == 8) = false := by rw [hkd]; rfl
 have e2 : (r.k == 2) = false := by rw [hkd]; rfl
 have e3 : (r.k == 3) = false := by rw [hkd]; rfl
 have e4 : (r.k == 4) = false := by rw [hkd]; rfl
 have e5 : (r.k == 5) = false := by rw [hkd]; rfl
 have e6 : (r.k == 6) = false := by rw [hkd]; rfl
 have k1 : r.k ≠ 1 := by rw [hkd]; decide
 have k8 : r.k ≠ 8 := by rw [hkd]; decide
 have hBn := bundleOf_any B gp P L p cp r da dc ca cc W hPW hOk.few
 simp only [rcV] at hBn
 obtain ⟨z, hz⟩ : ∃ z, (P.bundle r).1 = z := ⟨_, rfl⟩
 rw [hz] at hBn
 have G := Shut.mk (And.intro hz (And.intro hOk (And.intro hr (And.intro k1 (And.intro k8 (And.intro hP (And.intro hk (And.intro hb (And.intro hbB (And.intro hi (And.intro hsz (And.intro hU hPW))))))))))))
 clear hW hk hP hPW hbB hi hsz hU hkd hz hOk hr k1 k8 hb hBw
 unfold rcV
 go_enter Tryz.func36, Tryz.ntmps36
 go_upto_region 1 with fail
 rw [HW.out]
 clear HW
 go_wp2_with fail
 refine hBn.mono ?_
 rintro e W1 ⟨a, rfl, HBn⟩
 clear hBn a0 a1 a2 a3 a4 a5 a6 a7 a8 a9 a10 a11 a12
 rcases eqDec z 0 with ⟨z1, z2, z3, z4⟩ | ⟨z1, z2, z3, z4⟩
 case inr =>
  have HR := Shut.mk (show P.does r = (z, P) from by unfold Pl.does; rw [if_neg G.out.2.2.2.1, if_neg G.out.2.2.2.2.1, if_pos (by rw [G.out.1]; exact z1), G.out.1])
  have R : Shut (DoR B gp w z P W1) := ⟨G.out.2.2.2.2.2.2.2.2.1.trans HBn.out.1, fun e => absurd e z1⟩
  clear z1
  go_wp2
  go_ret
  rw [HR.out]
  exact ⟨rfl, R⟩
 case inl =>
  subst z1
  obtain ⟨L', g', cp', rfl, hP1⟩ := HBn.out.2.2 rfl
  obtain ⟨k, hk0, hKok, hkh⟩ := bundle_good G.out.2.1 G.out.2.2.1 G.out.2.2.2.2.1 G.out.1
  have hdo := does_of G.out.2.2.2.1 G.out.2.2.2.2.1 G.out.1 hk0
  generalize (P.bundle r).2.1 = lb at hP1 hk0 hdo
  generalize (P.bundle r).2.2 = ib at hP1 hk0 hdo
  obtain ⟨m, hm, rfl⟩ : ∃ m, L'[ib]? = some m ∧ m.k = k := by
   rw [← hP1.pl.says, List.getElem?_map] at hk0
   cases hL' : L'[ib]? with
   | none => rw [hL'] at hk0; cases hk0
   | some m => rw [hL'] at hk0; exact ⟨m, rfl, Option.some.inj hk0⟩
  have hbW1 : Below B w W1 := G.out.2.2.2.2.2.2.2.2.1.trans HBn.out.1
  have hk1 : W1.heap[w.heap.size]? = some (.cells #[.int .i64 r.k, .int .i64 r.p, .int .i64 r.n, .int .i64 r.y, .int .i64 r.h.F, .int .i64 r.h.Q, .int .i64 r.h.T, .int .i64 r.h.L, .int .i64 r.h.B, .int .i64 r.h.K, .int .i64 r.id, .slice da r.d.length dc, .slice ca r.c.length cc] 40 (0, 0)) := (HBn.out.2.1 w.heap.size (Array.getElem?_eq_some_iff.1 G.out.2.2.2.2.2.2.1).1 (by have := G.out.2.2.2.2.2.1.lt; omega) (fun o e => by have := (G.out.2.2.2.2.2.1.pl.own.lt w.heap.size (by rw [e]; rfl)).2; omega)).trans G.out.2.2.2.2.2.2.1
  have J := Shut.mk (And.intro hP1 (And.intro hm (And.intro hKok (And.intro hkh (And.intro hbW1 hk1)))))
  obtain ⟨a0, a1, a2, a3, a4, a5, a6, a7, a8, a9, a10, a11, a12⟩ := rcBox hk1
  clear HBn hk0
  have hat := meth hP1 hm
  obtain ⟨post0, hA0, _⟩ := hat
  have c0 : W1.cell? ⟨g', ib * 16, none⟩ = some (.int .i64 m.k.h.F) := hA0.cell 0 _ rfl
  have c1 : W1.cell? ⟨g', ib * 16 + 1, none⟩ = some (.int .i64 m.k.h.Q) := hA0.cell 1 _ rfl
  have c2 : W1.cell? ⟨g', ib * 16 + 2, none⟩ = some (.int .i64 m.k.h.T) := hA0.cell 2 _ rfl
  have c3 : W1.cell? ⟨g', ib * 16 + 3, none⟩ = some (.int .i64 m.k.h.L) := hA0.cell 3 _ rfl
  have c4 : W1.cell? ⟨g', ib * 16 + 4, none⟩ = some (.int .i64 m.k.h.B) := hA0.cell 4 _ rfl
  have c5 : W1.cell? ⟨g', ib * 16 + 5, none⟩ = some (.int .i64 m.k.h.K) := hA0.cell 5 _ rfl
  have c6 : W1.cell? ⟨g', ib * 16 + 6, none⟩ = some (.bool m.k.own) := hA0.cell 6 _ rfl
  have c7 : W1.cell? ⟨g', ib * 16 + 7, none⟩ = some (.slice m.ca m.k.c.length m.cc) := hA0.cell 7 _ rfl
  have c8 : W1.cell? ⟨g', ib * 16 + 8, none⟩ = some (.slice m.ya m.ys.length m.yc) := hA0.cell 8 _ rfl
  have c9 : W1.cell? ⟨g', ib * 16 + 9, none⟩ = some (.int .i64 m.k.sh) := hA0.cell 9 _ rfl
  have c10 : W1.cell? ⟨g', ib * 16 + 10, none⟩ = some (.int .i64 m.k.gv) := hA0.cell 10 _ rfl
  have c11 : W1.cell? ⟨g', ib * 16 + 11, none⟩ = some (.int .i64 m.k.tw) := hA0.cell 11 _ rfl
  have c12 : W1.cell? ⟨g', ib * 16 + 12, none⟩ = some (.int .i64 m.k.tr) := hA0.cell 12 _ rfl
  have c13 : W1.cell? ⟨g', ib * 16 + 13, none⟩ = some (.slice m.ta m.k.tk.length m.tc) := hA0.cell 13 _ rfl
  have c14 : W1.cell? ⟨g', ib * 16 + 14, none⟩ = some (.bool m.k.dl) := hA0.cell 14 _ rfl
  have c15 : W1.cell? ⟨g', ib * 16 + 15, none⟩ = some (.bool m.k.pg) := hA0.cell 15 _ rfl
  have hD := isDone_any m W1
  simp only [MKp.val] at hD
  clear hP1 hm hKok hkh hk1 hbW1
  go_wp2_with fail
  refine hD.mono ?_
  rintro e W2 ⟨rfl, hb2⟩
  have hP2 := J.out.1.below hb2
  have hk2 := blkB J.out.2.2.2.2.2 hb2
  have hbW2 : Below B w W2 := J.out.2.2.2.2.1.trans (hb2.mono (by have := J.out.1.lo; have := J.out.1.lt; omega))
  have Q := Shut.mk (And.intro hP2 (And.intro hk2 hbW2))
  clear hD hb2 hA0 c0 c1 c2 c3 c4 c5 c6 c7 c8 c9 c10 c11 c12 c13 c14 c15 a0 a1 a2 a3 a4 a5 a6 a7 a8 a9 a10 a11 a12
  obtain ⟨a0, a1, a2, a3, a4, a5, a6, a7, a8, a9, a10, a11, a12⟩ := rcBox hk2
  have hOkk := J.out.2.2.1
  have hsh := (shares_zero.1 hOkk.shares).1
  by_cases pd : m.k.done = true
  case pos =>
   have HR := Shut.mk (hdo.trans (show _ = ((7 : Int), (⟨P.me, lb.set ib m.k, P.tm, P.sq⟩ : Pl)) from by
    have : m.k.does P.me r = (7, m.k) := by unfold Kp.does; rw [if_neg (by rw [HK.out]; decide), if_neg (by rw [HK.out]; decide), if_pos pd]
    rw [this]))
   rw [pd]
   have R : Shut (DoR B gp w 7 ⟨P.me, lb.set ib m.k, P.tm, P.sq⟩ W2) := ⟨hbW2, fun e => absurd e (by decide)⟩
   clear pd hdo hP2 hk2
   go_wp2
   go_ret
   rw [HR.out]
   exact ⟨rfl, R⟩
  case neg =>
   have pd' : m.k.done = false := by simpa using pd
   rw [pd']
   obtain ⟨post, hA, hN, hf, hgr, hg, hBs, hDo⟩ := meth hP2 J.out.2.1
   have hde : m.k.does P.me r = (0, ({ m.k with pg := true } : Kp).over) := by unfold Kp.does; rw [if_neg (by rw [HK.out]; decide), if_neg (by rw [HK.out]; decide), if_neg pd, if_neg (by rw [HK.out]; decide), if_neg (by rw [HK.out]; decide), if_neg (by rw [HK.out]; decide)]
   rw [hde] at hdo
   have HR := Shut.mk hdo
   have c15 := hA.cell 15 _ rfl
   have f15 := hA.frz (ib * 16 + 15)
   have hG := letGo_any { m with k := { m.k with pg := true } } g' (ib * 16) (kpCells (L'.take ib)) post (W2.setCell ⟨g', ib * 16 + 15, none⟩ (.bool true)) (At16.conv (At16.set hA 15 (by show 15 < 16; omega) _) rfl)
   have HD : Shut (∀ w', At16 w' g' (ib * 16) (kpCells (L'.take ib)) post ({ m with k := { m.k with pg := true } } : MKp).letgo.cells → (W2.setCell ⟨g', ib * 16 + 15, none⟩ (.bool true)).grownBy w' (some g') → DoR B gp W2 0 ⟨P.me, lb.set ib ({ m.k with pg := true } : Kp).over, P.tm, P.sq⟩ w') := ⟨fun w' h1 h2 => hDo _ _ _ (by
    have hC := ChgR.over (k1 := { m.k with pg := true }) rfl rfl h1 (grown_trans (grown_set (grown_refl _ _) _ _) h2) hN hf hgr
    exact ⟨hC.below hN hg hBs, fun _ => ⟨_, rfl, hC⟩⟩)⟩
   clear pd pd' hdo hde hP2 hk2 hbW2 hA hN hf hgr hg hBs hDo hOkk hsh
   go_wp2_with fail
   refine hG.mono ?_
   rintro e W5 ⟨rfl, HS⟩
   clear hG a0 a1 a2 a3 a4 a5 a6 a7 a8 a9 a10 a11 a12 c15 f15
   go_wp2
   go_ret
   rw [HR.out]
   exact ⟨rfl, ⟨(HD.out _ HS.out.1 HS.out.2).up Q.out.2.2⟩⟩

set_option maxHeartbeats 8000000 in
set_option maxRecDepth 8000 in
theorem do_tick (B gp : Nat) (P : Pl) (L : List MKp) (p : Option Addr) (cp : Nat) (r : Rc) (da : Option Addr) (dc : Nat) (ca : Option Addr) (cc : Nat) (w : World) (hP : PlAt w B gp P.me P.tm P.sq P.kp L p cp) (hOk : PlOk P) (hr : r.code = 0) (hi : r.ints) (hsz : r.d.length ≤ 65536 ∧ r.c.length ≤ 65536) (hU : ∀ u, Below B w u → Lies u da (bs r.d) ∧ Lies u ca (bs r.c) ∧ Laid u) (hkd : r.k = 8) :
  Calls Tryz.prog 36 #[.pointer (some ⟨gp, 0, none⟩), rcV r da dc ca cc] w fun e w' => e = .returned (.int .i64 (P.does r).1) ∧ Shut (DoR B gp w (P.does r).1 (P.does r).2 w') := by
 have hBw : B ≤ w.heap.size := by have := hP.lo; have := hP.lt; omega
 obtain ⟨W, hW⟩ : ∃ W, w.alloc (.cells #[.int .i64 r.k, .int .i64 r.p, .int .i64 r.n, .int .i64 r.y, .int .i64 r.h.F, .int .i64 r.h.Q, .int .i64 r.h.T, .int .i64 r.h.L, .int .i64 r.h.B, .int .i64 r.h.K, .int .i64 r.id, .slice da r.d.length dc, .slice ca r.c.length cc] 40) = W := ⟨_, rfl⟩
 have hb : Below w.heap.size w W := by rw [← hW]; exact (Below.refl _ _).alloc (Nat.le_refl _) _
 have hk : W.heap[w.heap.size]? = some (.cells #[.int .i64 r.k, .int .i64 r.p, .int .i64 r.n, .int .i64 r.y, .int .i64 r.h.F, .int .i64 r.h.Q, .int .i64 r.h.T, .int .i64 r.h.L, .int .i64 r.h.B, .int .i64 r.h.K, .int .i64 r.id, .slice da r.d.length dc, .slice ca r.c.length cc] 40 (0, 0)) := by rw [← hW, heap_alloc_eq, if_pos rfl]
 have hPW := hP.below hb
 have hbB : Below B w W := hb.mono hBw
 have HW := Shut.mk hW
 have HK := Shut.mk hkd
 obtain ⟨a0, a1, a2, a3, a4, a5, a6, a7, a8, a9, a10, a11, a12⟩ := rcBox hk
 have e1 : (r.k == 1) = false := by rw [hkd]; rfl
 have e8 : (r.k == 8) = true := by rw [hkd]; rfl
 have e2 : (r.k == 2) = false := by rw [hkd]; rfl
 have e3 : (r.k == 3) = false := by rw [hkd]; rfl
 have e4 : (r.k == 4) = false := by rw [hkd]; rfl
 have e5 : (r.k == 5) = false := by rw [hkd]; rfl
 have e6 : (r.k == 6) = false := by rw [hkd]; rfl
 have HR := Shut.mk (show P.does r = P.tick r.n from by unfold Pl.does; rw [if_neg (by rw [hkd]; decide), if_pos hkd])
 have hS := tick_any B gp P L p cp r.n W hPW hOk.few
 have HB := Shut.mk hbB
 clear hW hk hP hPW hbB hi hsz hU hkd hOk hr hb hBw
 unfold rcV
 go_enter Tryz.func36, Tryz.ntmps36
 go_upto_region 1 with fail
 rw [HW.out]
 clear HW
 go_wp2_with fail
 refine hS.mono ?_
 rintro e W1 ⟨rfl, HS⟩
 clear hS a0 a1 a2 a3 a4 a5 a6 a7 a8 a9 a10 a11 a12
 go_wp2
 go_ret
 rw [HR.out]
 exact ⟨rfl, ⟨HS.out.up HB.out⟩⟩

end Go.Proofs.YtakkajjoeimkdaaGreatDoor

namespace Go.Proofs.YtakkajjoeimkdaaGreatDoor
open Go.RowKit
set_option linter.unusedVariables false
set_option linter.unusedSimpArgs false

theorem hd_bytes {h : Hd} (e : hdCode h = 0) : 1 ≤ h.B ∧ h.B ≤ 360 ∧ 1 ≤ h.K ∧ h.K ≤ 16 := by
 unfold hdCode at e
 split at e
 ·omega
 ·split at e
  ·omega
  ·unfold chkP at e
   split at e
   ·omega
   ·omega

theorem chkS_len {B K id : Int} {n : Nat} (h : chkS B K id n = 0) : (n : Int) = K ∧ K ≤ 16 := by
 unfold chkS at h
 split at h
 ·rename_i h1; exact absurd h h1
 ·rename_i h1
  have h1' := Classical.not_not.1 h1
  split at h
  ·omega
  ·split at h
   ·omega
   ·rename_i h3
    refine ⟨Classical.not_not.1 h3, ?_⟩
    unfold chkP at h1'
    split at h1'
    ·omega
    ·omega

theorem syms_len {B K : Int} : ∀ (l a : List LSym), symsFrom B K a l = 0 → ∀ s ∈ l, s.2.length ≤ 16
 | [], _, _, _, hs => by cases hs
 | y :: l, a, h, s, hs => by
  unfold symsFrom at h
  split at h
  ·rename_i h1; exact absurd h h1
  ·rename_i h1
   split at h
   ·omega
   ·rcases List.mem_cons.1 hs with rfl | hs
    ·have := chkS_len (Classical.not_not.1 h1)
     omega
    ·exact syms_len l _ h s hs

theorem KpOk.small {me tm sq : Int} {k : Kp} (h : KpOk me tm sq k) : k.small := by
 have hb := hd_bytes h.hd
 refine ⟨?_, by have := h.few.1; omega, by have := h.few.2; omega, fun s hs => by have := syms_len _ _ h.syms s hs; omega⟩
 have ho := h.own
 unfold Kp.owned at ho
 simp only [Bool.and_eq_true, Bool.or_eq_true, decide_eq_true_eq] at ho
 rcases ho.2 with h1 | h1
 ·have := h1.2.1; omega
 ·omega

theorem rc_sizes {r : Rc} (h : r.code = 0) : r.d.length ≤ 65536 ∧ r.c.length ≤ 65536 := by
 obtain ⟨fk, ⟨fp, fy, fn⟩, fh, fs, fc⟩ := rc_facts h
 unfold Rc.code at h
 rw [← ownCode_rec] at h
 unfold ownCode at h
 rw [if_neg (fun e => e fk)] at h
 split at h
 ·omega
 ·rename_i hn
  have hn' : needless r.k r.p r.n r.y r.h r.id r.d.length r.c.length = false := by simpa using hn
  unfold needless at hn'
  simp only [Bool.or_eq_false_iff] at hn'
  obtain ⟨⟨⟨⟨⟨_, _⟩, _⟩, _⟩, h5⟩, h6⟩ := hn'
  constructor
  ·by_cases k2 : r.k = 2
   ·have := chkS_len (fs k2)
    omega
   ·have e : inK r.k [2] = false := by simp [inK]; omega
    rw [e] at h5
    simp at h5
    have := h5.2
    rw [this]
    exact Nat.zero_le _
  ·by_cases k13 : r.k = 1 ∨ r.k = 3
   ·have h1 := fc k13
    have h2 := hd_bytes (fh (by omega))
    omega
   ·have e : inK r.k [1, 3] = false := by simp [inK]; omega
    rw [e] at h6
    simp at h6
    rw [h6]
    exact Nat.zero_le _

theorem do_any (B gp : Nat) (P : Pl) (L : List MKp) (p : Option Addr) (cp : Nat) (r : Rc) (da : Option Addr) (dc : Nat) (ca : Option Addr) (cc : Nat) (w : World) (hP : PlAt w B gp P.me P.tm P.sq P.kp L p cp) (hOk : PlOk P) (hr : r.code = 0) (hi : r.ints) (hU : ∀ u, Below B w u → Lies u da (bs r.d) ∧ Lies u ca (bs r.c) ∧ Laid u) :
  Calls Tryz.prog 36 #[.pointer (some ⟨gp, 0, none⟩), rcV r da dc ca cc] w fun e w' => e = .returned (.int .i64 (P.does r).1) ∧ Shut (DoR B gp w (P.does r).1 (P.does r).2 w') := by
 have hk := (rc_facts hr).1
 have hsz := rc_sizes hr
 have hc : r.k = 1 ∨ r.k = 2 ∨ r.k = 3 ∨ r.k = 4 ∨ r.k = 5 ∨ r.k = 6 ∨ r.k = 7 ∨ r.k = 8 := by omega
 rcases hc with h | h | h | h | h | h | h | h
 ·exact do_send B gp P L p cp r da dc ca cc w hP hOk hr hi hsz hU h
 ·exact do_keep B gp P L p cp r da dc ca cc w hP hOk hr hi hsz hU h
 ·exact do_deliver B gp P L p cp r da dc ca cc w hP hOk hr hi hsz hU h
 ·exact do_give B gp P L p cp r da dc ca cc w hP hOk hr hi hsz hU h
 ·exact do_given B gp P L p cp r da dc ca cc w hP hOk hr hi hsz hU h
 ·exact do_take B gp P L p cp r da dc ca cc w hP hOk hr hi hsz hU h
 ·exact do_purge B gp P L p cp r da dc ca cc w hP hOk hr hi hsz hU h
 ·exact do_tick B gp P L p cp r da dc ca cc w hP hOk hr hi hsz hU h

theorem PlNew.low {B B' : Nat} {w : World} {l : List Kp} {L : List MKp} {p : Option Addr} {cp : Nat} (h : PlNew B w l L p cp) (hB : B' ≤ B) : PlNew B' w l L p cp := ⟨h.says, own_low h.own hB, fun m hm => ⟨(h.new m hm).1.mono hB, (h.new m hm).2⟩, h.far⟩

theorem PlNew.none (B : Nat) (w : World) : PlNew B w [] [] none 0 := ⟨rfl, World.ownsRow_nil _ _ _ _, fun m hm => (by cases hm), fun i j m m' _ e => (by cases e)⟩

end Go.Proofs.YtakkajjoeimkdaaGreatDoor
