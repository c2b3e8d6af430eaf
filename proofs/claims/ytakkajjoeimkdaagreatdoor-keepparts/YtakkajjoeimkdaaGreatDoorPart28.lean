import Derived.Test.YtakkajjoeimkdaaGreatDoorPart27
import Derived.Test.YtakkajjoeimkdaaGreatDoorPart19
import Derived.Test.YtakkajjoeimkdaaGreatDoorPart17
namespace Go.Proofs.YtakkajjoeimkdaaGreatDoor
open Go.RowKit
set_option linter.unusedVariables false
set_option linter.unusedSimpArgs false
attribute [local go_sem ↓] Go.wp_at_zero Go.wp_at_succ

set_option maxHeartbeats 8000000 in
set_option maxRecDepth 8000 in
theorem do_take (B gp : Nat) (P : Pl) (L : List MKp) (p : Option Addr) (cp : Nat) (r : Rc) (da : Option Addr) (dc : Nat) (ca : Option Addr) (cc : Nat) (w : World) (hP : PlAt w B gp P.me P.tm P.sq P.kp L p cp) (hOk : PlOk P) (hr : r.code = 0) (hi : r.ints) (hsz : r.d.length ≤ 65536 ∧ r.c.length ≤ 65536) (hU : ∀ u, Below B w u → Lies u da (bs r.d) ∧ Lies u ca (bs r.c) ∧ Laid u) (hkd : r.k = 6) :
  Calls Tryz.prog 36 #[.pointer (some ⟨gp, 0, none⟩), rcV r da dc ca cc] w fun e w' => e = .returned (.int .i64 (P.does r).1) ∧ Shut (DoR B gp w (P.does r).1 (P.does r).2 w') := by
 have hBw : B ≤ w.heap.size := by have := hP.lo; have := hP.lt; omega
 obtain ⟨W, hW⟩ : ∃ W, w.alloc (.cells #[.int .i64 r.k, .int .i64 r.p, .int .i64 r.n, .int .i64 r.y, .int .i64 r.h.F, .int .i64 r.h.Q, .int .i64 r.h.T, .int .i64 r.h.L, .int .i64 r.h.B, .int .i64 r.h.K, .int .i64 r.id, .slice da r.d.length dc, .slice ca r.c.length cc] 40) = W := ⟨_, rfl⟩
 have hb : Below w.heap.size w W := by rw [← hW]; exact (Below.refl _ _).alloc (Nat.le_refl _) _
 have hk : W.heap[w.heap.size]? = some (.cells #[.int .i64 r.k, .int .i64 r.p, .int .i64 r.n, .int .i64 r.y, .int .i64 r.h.F, .int .i64 r.h.Q, .int .i64 r.h.T, .int .i64 r.h.L, .int .i64 r.h.B, .int .i64 r.h.K, .int .i64 r.id, .slice da r.d.length dc, .slice ca r.c.length cc] 40 (0, 0)) := by rw [← hW, heap_alloc_eq, if_pos rfl]
 have hPW := hP.below hb
 have hbB : Below B w W := hb.mono hBw
 have HW := Shut.mk hW
 have HK := Shut.mk hkd
 obtain ⟨a0, a1, a2, a3, a4, a5, a6, a7, a8, a9, a10, a11, a12⟩ := rcBox hk
 have e1 : (r.k == 1) = false := by rw [hkd]; rfl
 have e8 : (r.k == 8) = false := by rw [hkd]; rfl
 have e2 : (r.k == 2) = false := by rw [hkd]; rfl
 have e3 : (r.k == 3) = false := by rw [hkd]; rfl
 have e4 : (r.k == 4) = false := by rw [hkd]; rfl
 have e5 : (r.k == 5) = false := by rw [hkd]; rfl
 have e6 : (r.k == 6) = true := by rw [hkd]; rfl
 have k1 : r.k ≠ 1 := by rw [hkd]; decide
 have k8 : r.k ≠ 8 := by rw [hkd]; decide
 have hBn := bundleOf_any B gp P L p cp r da dc ca cc W hPW hOk.few
 simp only [rcV] at hBn
 obtain ⟨z, hz⟩ : ∃ z, (P.bundle r).1 = z := ⟨_, rfl⟩
 rw [hz] at hBn
 have G := Shut.mk (And.intro hz (And.intro hOk (And.intro hr (And.intro k1 (And.intro k8 (And.intro hP (And.intro hk (And.intro hb (And.intro hbB (And.intro hi (And.intro hsz (And.intro hU hPW))))))))))))
 clear hW hk hP hPW hbB hi hsz hU hkd hz hOk hr k1 k8 hb hBw
 unfold rcV
 go_enter Tryz.func36, Tryz.ntmps36
 go_upto_region 1 with fail
 rw [HW.out]
 clear HW
 go_wp2_with fail
 refine hBn.mono ?_
 rintro e W1 ⟨a, rfl, HBn⟩
 clear hBn a0 a1 a2 a3 a4 a5 a6 a7 a8 a9 a10 a11 a12
 rcases eqDec z 0 with ⟨z1, z2, z3, z4⟩ | ⟨z1, z2, z3, z4⟩
 case inr =>
  have HR := Shut.mk (show P.does r = (z, P) from by unfold Pl.does; rw [if_neg G.out.2.2.2.1, if_neg G.out.2.2.2.2.1, if_pos (by rw [G.out.1]; exact z1), G.out.1])
  have R : Shut (DoR B gp w z P W1) := ⟨G.out.2.2.2.2.2.2.2.2.1.trans HBn.out.1, fun e => absurd e z1⟩
  clear z1
  go_wp2
  go_ret
  rw [HR.out]
  exact ⟨rfl, R⟩
 case inl =>
  subst z1
  obtain ⟨L', g', cp', rfl, hP1⟩ := HBn.out.2.2 rfl
  obtain ⟨k, hk0, hKok, hkh⟩ := bundle_good G.out.2.1 G.out.2.2.1 G.out.2.2.2.2.1 G.out.1
  have hdo := does_of G.out.2.2.2.1 G.out.2.2.2.2.1 G.out.1 hk0
  generalize (P.bundle r).2.1 = lb at hP1 hk0 hdo
  generalize (P.bundle r).2.2 = ib at hP1 hk0 hdo
  obtain ⟨m, hm, rfl⟩ : ∃ m, L'[ib]? = some m ∧ m.k = k := by
   rw [← hP1.pl.says, List.getElem?_map] at hk0
   cases hL' : L'[ib]? with
   | none => rw [hL'] at hk0; cases hk0
   | some m => rw [hL'] at hk0; exact ⟨m, rfl, Option.some.inj hk0⟩
  have hbW1 : Below B w W1 := G.out.2.2.2.2.2.2.2.2.1.trans HBn.out.1
  have hk1 : W1.heap[w.heap.size]? = some (.cells #[.int .i64 r.k, .int .i64 r.p, .int .i64 r.n, .int .i64 r.y, .int .i64 r.h.F, .int .i64 r.h.Q, .int .i64 r.h.T, .int .i64 r.h.L, .int .i64 r.h.B, .int .i64 r.h.K, .int .i64 r.id, .slice da r.d.length dc, .slice ca r.c.length cc] 40 (0, 0)) := (HBn.out.2.1 w.heap.size (Array.getElem?_eq_some_iff.1 G.out.2.2.2.2.2.2.1).1 (by have := G.out.2.2.2.2.2.1.lt; omega) (fun o e => by have := (G.out.2.2.2.2.2.1.pl.own.lt w.heap.size (by rw [e]; rfl)).2; omega)).trans G.out.2.2.2.2.2.2.1
  have J := Shut.mk (And.intro hP1 (And.intro hm (And.intro hKok (And.intro hkh (And.intro hbW1 hk1)))))
  obtain ⟨a0, a1, a2, a3, a4, a5, a6, a7, a8, a9, a10, a11, a12⟩ := rcBox hk1
  clear HBn hk0
  have hat := meth hP1 hm
  obtain ⟨post0, hA0, _⟩ := hat
  have c0 : W1.cell? ⟨g', ib * 16, none⟩ = some (.int .i64 m.k.h.F) := hA0.cell 0 _ rfl
  have c1 : W1.cell? ⟨g', ib * 16 + 1, none⟩ = some (.int .i64 m.k.h.Q) := hA0.cell 1 _ rfl
  have c2 : W1.cell? ⟨g', ib * 16 + 2, none⟩ = some (.int .i64 m.k.h.T) := hA0.cell 2 _ rfl
  have c3 : W1.cell? ⟨g', ib * 16 + 3, none⟩ = some (.int .i64 m.k.h.L) := hA0.cell 3 _ rfl
  have c4 : W1.cell? ⟨g', ib * 16 + 4, none⟩ = some (.int .i64 m.k.h.B) := hA0.cell 4 _ rfl
  have c5 : W1.cell? ⟨g', ib * 16 + 5, none⟩ = some (.int .i64 m.k.h.K) := hA0.cell 5 _ rfl
  have c6 : W1.cell? ⟨g', ib * 16 + 6, none⟩ = some (.bool m.k.own) := hA0.cell 6 _ rfl
  have c7 : W1.cell? ⟨g', ib * 16 + 7, none⟩ = some (.slice m.ca m.k.c.length m.cc) := hA0.cell 7 _ rfl
  have c8 : W1.cell? ⟨g', ib * 16 + 8, none⟩ = some (.slice m.ya m.ys.length m.yc) := hA0.cell 8 _ rfl
  have c9 : W1.cell? ⟨g', ib * 16 + 9, none⟩ = some (.int .i64 m.k.sh) := hA0.cell 9 _ rfl
  have c10 : W1.cell? ⟨g', ib * 16 + 10, none⟩ = some (.int .i64 m.k.gv) := hA0.cell 10 _ rfl
  have c11 : W1.cell? ⟨g', ib * 16 + 11, none⟩ = some (.int .i64 m.k.tw) := hA0.cell 11 _ rfl
  have c12 : W1.cell? ⟨g', ib * 16 + 12, none⟩ = some (.int .i64 m.k.tr) := hA0.cell 12 _ rfl
  have c13 : W1.cell? ⟨g', ib * 16 + 13, none⟩ = some (.slice m.ta m.k.tk.length m.tc) := hA0.cell 13 _ rfl
  have c14 : W1.cell? ⟨g', ib * 16 + 14, none⟩ = some (.bool m.k.dl) := hA0.cell 14 _ rfl
  have c15 : W1.cell? ⟨g', ib * 16 + 15, none⟩ = some (.bool m.k.pg) := hA0.cell 15 _ rfl
  have hD := isDone_any m W1
  simp only [MKp.val] at hD
  clear hP1 hm hKok hkh hk1 hbW1
  go_wp2_with fail
  refine hD.mono ?_
  rintro e W2 ⟨rfl, hb2⟩
  have hP2 := J.out.1.below hb2
  have hk2 := blkB J.out.2.2.2.2.2 hb2
  have hbW2 : Below B w W2 := J.out.2.2.2.2.1.trans (hb2.mono (by have := J.out.1.lo; have := J.out.1.lt; omega))
  have Q := Shut.mk (And.intro hP2 (And.intro hk2 hbW2))
  clear hD hb2 hA0 c0 c1 c2 c3 c4 c5 c6 c7 c8 c9 c10 c11 c12 c13 c14 c15 a0 a1 a2 a3 a4 a5 a6 a7 a8 a9 a10 a11 a12
  obtain ⟨a0, a1, a2, a3, a4, a5, a6, a7, a8, a9, a10, a11, a12⟩ := rcBox hk2
  have hOkk := J.out.2.2.1
  have hsh := (shares_zero.1 hOkk.shares).1
  by_cases pd : m.k.done = true
  case pos =>
   have HR := Shut.mk (hdo.trans (show _ = ((7 : Int), (⟨P.me, lb.set ib m.k, P.tm, P.sq⟩ : Pl)) from by
    have : m.k.does P.me r = (7, m.k) := by unfold Kp.does; rw [if_neg (by rw [HK.out]; decide), if_neg (by rw [HK.out]; decide), if_pos pd]
    rw [this]))
   rw [pd]
   have R : Shut (DoR B gp w 7 ⟨P.me, lb.set ib m.k, P.tm, P.sq⟩ W2) := ⟨hbW2, fun e => absurd e (by decide)⟩
   clear pd hdo hP2 hk2
   go_wp2
   go_ret
   rw [HR.out]
   exact ⟨rfl, R⟩
  case neg =>
   have pd' : m.k.done = false := by simpa using pd
   rw [pd']
   obtain ⟨post, hA, hN, hf, hgr, hg, hBs, hDo⟩ := meth hP2 J.out.2.1
   have hde : m.k.does P.me r = m.k.take r.p r.n r.y := by unfold Kp.does; rw [if_neg (by rw [HK.out]; decide), if_neg (by rw [HK.out]; decide), if_neg pd, if_neg (by rw [HK.out]; decide), if_neg (by rw [HK.out]; decide), if_pos HK.out]
   rw [hde] at hdo
   have HR := Shut.mk hdo
   have hS := take_any B m r da dc ca cc g' (ib * 16) (kpCells (L'.take ib)) post W2 hA hN hf hgr hg (by have := (rc_facts G.out.2.2.1).2.1.2.2; omega)
   simp only [rcV] at hS
   have HD := Shut.mk hDo
   clear pd pd' hdo hde hP2 hk2 hbW2 hA hN hf hgr hg hBs hDo hOkk hsh
   go_wp2_with fail
   refine hS.mono ?_
   rintro e W5 ⟨rfl, HS⟩
   clear hS a0 a1 a2 a3 a4 a5 a6 a7 a8 a9 a10 a11 a12
   go_wp2
   go_ret
   rw [HR.out]
   exact ⟨rfl, ⟨(HD.out _ _ _ HS.out).up Q.out.2.2⟩⟩

set_option maxHeartbeats 8000000 in
set_option maxRecDepth 8000 in
theorem do_purge (B gp : Nat) (P : Pl) (L : List MKp) (p : Option Addr) (cp : Nat) (r : Rc) (da : Option Addr) (dc : Nat) (ca : Option Addr) (cc : Nat) (w : World) (hP : PlAt w B gp P.me P.tm P.sq P.kp L p cp) (hOk : PlOk P) (hr : r.code = 0) (hi : r.ints) (hsz : r.d.length ≤ 65536 ∧ r.c.length ≤ 65536) (hU : ∀ u, Below B w u → Lies u da (bs r.d) ∧ Lies u ca (bs r.c) ∧ Laid u) (hkd : r.k = 7) :
  Calls Tryz.prog 36 #[.pointer (some ⟨gp, 0, none⟩), rcV r da dc ca cc] w fun e w' => e = .returned (.int .i64 (P.does r).1) ∧ Shut (DoR B gp w (P.does r).1 (P.does r).2 w') := by
 have hBw : B ≤ w.heap.size := by have := hP.lo; have := hP.lt; omega
 obtain ⟨W, hW⟩ : ∃ W, w.alloc (.cells #[.int .i64 r.k, .int .i64 r.p, .int .i64 r.n, .int .i64 r.y, .int .i64 r.h.F, .int .i64 r.h.Q, .int .i64 r.h.T, .int .i64 r.h.L, .int .i64 r.h.B, .int .i64 r.h.K, .int .i64 r.id, .slice da r.d.length dc, .slice ca r.c.length cc] 40) = W := ⟨_, rfl⟩
 have hb : Below w.heap.size w W := by rw [← hW]; exact (Below.refl _ _).alloc (Nat.le_refl _) _
 have hk : W.heap[w.heap.size]? = some (.cells #[.int .i64 r.k, .int .i64 r.p, .int .i64 r.n, .int .i64 r.y, .int .i64 r.h.F, .int .i64 r.h.Q, .int .i64 r.h.T, .int .i64 r.h.L, .int .i64 r.h.B, .int .i64 r.h.K, .int .i64 r.id, .slice da r.d.length dc, .slice ca r.c.length cc] 40 (0, 0)) := by rw [← hW, heap_alloc_eq, if_pos rfl]
 have hPW := hP.below hb
 have hbB : Below B w W := hb.mono hBw
 have HW := Shut.mk hW
 have HK := Shut.mk hkd
 obtain ⟨a0, a1, a2, a3, a4, a5, a6, a7, a8, a9, a10, a11, a12⟩ := rcBox hk
 have e1 : (r.k == 1) = false := by rw [hkd]; rfl
 have e8 : (r.k == 8) = false := by rw [hkd]; rfl
 have e2 : (r.k == 2) = false := by rw [hkd]; rfl
 have e3 : (r.k == 3) = false := by rw [hkd]; rfl
 have e4 : (r.k == 4) = false := by rw [hkd]; rfl
 have e5 : (r.k == 5) = false := by rw [hkd]; rfl
 have e6 : (r.k == 6) = false := by rw [hkd]; rfl
 have k1 : r.k ≠ 1 := by rw [hkd]; decide
 have k8 : r.k ≠ 8 := by rw [hkd]; decide
 have hBn := bundleOf_any B gp P L p cp r da dc ca cc W hPW hOk.few
 simp only [rcV] at hBn
 obtain ⟨z, hz⟩ : ∃ z, (P.bundle r).1 = z := ⟨_, rfl⟩
 rw [hz] at hBn
 have G := Shut.mk (And.intro hz (And.intro hOk (And.intro hr (And.intro k1 (And.intro k8 (And.intro hP (And.intro hk (And.intro hb (And.intro hbB (And.intro hi (And.intro hsz (And.intro hU hPW))))))))))))
 clear hW hk hP hPW hbB hi hsz hU hkd hz hOk hr k1 k8 hb hBw
 unfold rcV
 go_enter Tryz.func36, Tryz.ntmps36
 go_upto_region 1 with fail
 rw [HW.out]
 clear HW
 go_wp2_with fail
 refine hBn.mono ?_
 rintro e W1 ⟨a, rfl, HBn⟩
 clear hBn a0 a1 a2 a3 a4 a5 a6 a7 a8 a9 a10 a11 a12
 rcases eqDec z 0 with ⟨z1, z2, z3, z4⟩ | ⟨z1, z2, z3, z4⟩
 case inr =>
  have HR := Shut.mk (show P.does r = (z, P) from by unfold Pl.does; rw [if_neg G.out.2.2.2.1, if_neg G.out.2.2.2.2.1, if_pos (by rw [G.out.1]; exact z1), G.out.1])
  have R : Shut (DoR B gp w z P W1) := ⟨G.out.2.2.2.2.2.2.2.2.1.trans HBn.out.1, fun e => absurd e z1⟩
  clear z1
  go_wp2
  go_ret
  rw [HR.out]
  exact ⟨rfl, R⟩
 case inl =>
  subst z1
  obtain ⟨L', g', cp', rfl, hP1⟩ := HBn.out.2.2 rfl
  obtain ⟨k, hk0, hKok, hkh⟩ := bundle_good G.out.2.1 G.out.2.2.1 G.out.2.2.2.2.1 G.out.1
  have hdo := does_of G.out.2.2.2.1 G.out.2.2.2.2.1 G.out.1 hk0
  generalize (P.bundle r).2.1 = lb at hP1 hk0 hdo
  generalize (P.bundle r).2.2 = ib at hP1 hk0 hdo
  obtain ⟨m, hm, rfl⟩ : ∃ m, L'[ib]? = some m ∧ m.k = k := by
   rw [← hP1.pl.says, List.getElem?_map] at hk0
   cases hL' : L'[ib]? with
   | none => rw [hL'] at hk0; cases hk0
   | some m => rw [hL'] at hk0; exact ⟨m, rfl, Option.some.inj hk0⟩
  have hbW1 : Below B w W1 := G.out.2.2.2.2.2.2.2.2.1.trans HBn.out.1
  have hk1 : W1.heap[w.heap.size]? = some (.cells #[.int .i64 r.k, .int .i64 r.p, .int .i64 r.n, .int .i64 r.y, .int .i64 r.h.F, .int .i64 r.h.Q, .int .i64 r.h.T, .int .i64 r.h.L, .int .i64 r.h.B, .int .i64 r.h.K, .int .i64 r.id, .slice da r.d.length dc, .slice ca r.c.length cc] 40 (0, 0)) := (HBn.out.2.1 w.heap.size (Array.getElem?_eq_some_iff.1 G.out.2.2.2.2.2.2.1).1 (by have := G.out.2.2.2.2.2.1.lt; omega) (fun o e => by have := (G.out.2.2.2.2.2.1.pl.own.lt w.heap.size (by rw [e]; rfl)).2; omega)).trans G.out.2.2.2.2.2.2.1
  have J := Shut.mk (And.intro hP1 (And.intro hm (And.intro hKok (And.intro hkh (And.intro hbW1 hk1)))))
  obtain ⟨a0, a1, a2, a3, a4, a5, a6, a7, a8, a9, a10, a11, a12⟩ := rcBox hk1
  clear HBn hk0
  have hat := meth hP1 hm
  obtain ⟨post0, hA0, _⟩ := hat
  have c0 : W1.cell? ⟨g', ib * 16, none⟩ = some (.int .i64 m.k.h.F) := hA0.cell 0 _ rfl
  have c1 : W1.cell? ⟨g', ib * 16 + 1, none⟩ = some (.int .i64 m.k.h.Q) := hA0.cell 1 _ rfl
  have c2 : W1.cell? ⟨g', ib * 16 + 2, none⟩ = some (.int .i64 m.k.h.T) := hA0.cell 2 _ rfl
  have c3 : W1.cell? ⟨g', ib * 16 + 3, none⟩ = some (.int .i64 m.k.h.L) := hA0.cell 3 _ rfl
  have c4 : W1.cell? ⟨g', ib * 16 + 4, none⟩ = some (.int .i64 m.k.h.B) := hA0.cell 4 _ rfl
  have c5 : W1.cell? ⟨g', ib * 16 + 5, none⟩ = some (.int .i64 m.k.h.K) := hA0.cell 5 _ rfl
  have c6 : W1.cell? ⟨g', ib * 16 + 6, none⟩ = some (.bool m.k.own) := hA0.cell 6 _ rfl
  have c7 : W1.cell? ⟨g', ib * 16 + 7, none⟩ = some (.slice m.ca m.k.c.length m.cc) := hA0.cell 7 _ rfl
  have c8 : W1.cell? ⟨g', ib * 16 + 8, none⟩ = some (.slice m.ya m.ys.length m.yc) := hA0.cell 8 _ rfl
  have c9 : W1.cell? ⟨g', ib * 16 + 9, none⟩ = some (.int .i64 m.k.sh) := hA0.cell 9 _ rfl
  have c10 : W1.cell? ⟨g', ib * 16 + 10, none⟩ = some (.int .i64 m.k.gv) := hA0.cell 10 _ rfl
  have c11 : W1.cell? ⟨g', ib * 16 + 11, none⟩ = some (.int .i64 m.k.tw) := hA0.cell 11 _ rfl
  have c12 : W1.cell? ⟨g', ib * 16 + 12, none⟩ = some (.int .i64 m.k.tr) := hA0.cell 12 _ rfl
  have c13 : W1.cell? ⟨g', ib * 16 + 13, none⟩ = some (.slice m.ta m.k.tk.length m.tc) := hA0.cell 13 _ rfl
  have c14 : W1.cell? ⟨g', ib * 16 + 14, none⟩ = some (.bool m.k.dl) := hA0.cell 14 _ rfl
  have c15 : W1.cell? ⟨g', ib * 16 + 15, none⟩ = some (.bool m.k.pg) := hA0.cell 15 _ rfl
  have hD := isDone_any m W1
  simp only [MKp.val] at hD
  clear hP1 hm hKok hkh hk1 hbW1
  go_wp2_with fail
  refine hD.mono ?_
  rintro e W2 ⟨rfl, hb2⟩
  have hP2 := J.out.1.below hb2
  have hk2 := blkB J.out.2.2.2.2.2 hb2
  have hbW2 : Below B w W2 := J.out.2.2.2.2.1.trans (hb2.mono (by have := J.out.1.lo; have := J.out.1.lt; omega))
  have Q := Shut.mk (And.intro hP2 (And.intro hk2 hbW2))
  clear hD hb2 hA0 c0 c1 c2 c3 c4 c5 c6 c7 c8 c9 c10 c11 c12 c13 c14 c15 a0 a1 a2 a3 a4 a5 a6 a7 a8 a9 a10 a11 a12
  obtain ⟨a0, a1, a2, a3, a4, a5, a6, a7, a8, a9, a10, a11, a12⟩ := rcBox hk2
  have hOkk := J.out.2.2.1
  have hsh := (shares_zero.1 hOkk.shares).1
  by_cases pd : m.k.done = true
  case pos =>
   have HR := Shut.mk (hdo.trans (show _ = ((7 : Int), (⟨P.me, lb.set ib m.k, P.tm, P.sq⟩ : Pl)) from by
    have : m.k.does P.me r = (7, m.k) := by unfold Kp.does; rw [if_neg (by rw [HK.out]; decide), if_neg (by rw [HK.out]; decide), if_pos pd]
    rw [this]))
   rw [pd]
   have R : Shut (DoR B gp w 7 ⟨P.me, lb.set ib m.k, P.tm, P.sq⟩ W2) := ⟨hbW2, fun e => absurd e (by decide)⟩
   clear pd hdo hP2 hk2
   go_wp2
   go_ret
   rw [HR.out]
   exact ⟨rfl, R⟩
  case neg =>
   have pd' : m.k.done = false := by simpa using pd
   rw [pd']
   obtain ⟨post, hA, hN, hf, hgr, hg, hBs, hDo⟩ := meth hP2 J.out.2.1
   have hde : m.k.does P.me r = (0, ({ m.k with pg := true } : Kp).over) := by unfold Kp.does; rw [if_neg (by rw [HK.out]; decide), if_neg (by rw [HK.out]; decide), if_neg pd, if_neg (by rw [HK.out]; decide), if_neg (by rw [HK.out]; decide), if_neg (by rw [HK.out]; decide)]
   rw [hde] at hdo
   have HR := Shut.mk hdo
   have c15 := hA.cell 15 _ rfl
   have f15 := hA.frz (ib * 16 + 15)
   have hG := letGo_any { m with k := { m.k with pg := true } } g' (ib * 16) (kpCells (L'.take ib)) post (W2.setCell ⟨g', ib * 16 + 15, none⟩ (.bool true)) (At16.conv (At16.set hA 15 (by show 15 < 16; omega) _) rfl)
   have HD : Shut (∀ w', At16 w' g' (ib * 16) (kpCells (L'.take ib)) post ({ m with k := { m.k with pg := true } } : MKp).letgo.cells → (W2.setCell ⟨g', ib * 16 + 15, none⟩ (.bool true)).grownBy w' (some g') → DoR B gp W2 0 ⟨P.me, lb.set ib ({ m.k with pg := true } : Kp).over, P.tm, P.sq⟩ w') := ⟨fun w' h1 h2 => hDo _ _ _ (by
    have hC := ChgR.over (k1 := { m.k with pg := true }) rfl rfl h1 (grown_trans (grown_set (grown_refl _ _) _ _) h2) hN hf hgr
    exact ⟨hC.below hN hg hBs, fun _ => ⟨_, rfl, hC⟩⟩)⟩
   clear pd pd' hdo hde hP2 hk2 hbW2 hA hN hf hgr hg hBs hDo hOkk hsh
   go_wp2_with fail
   refine hG.mono ?_
   rintro e W5 ⟨rfl, HS⟩
   clear hG a0 a1 a2 a3 a4 a5 a6 a7 a8 a9 a10 a11 a12 c15 f15
   go_wp2
   go_ret
   rw [HR.out]
   exact ⟨rfl, ⟨(HD.out _ HS.out.1 HS.out.2).up Q.out.2.2⟩⟩

set_option maxHeartbeats 8000000 in
set_option maxRecDepth 8000 in
theorem do_tick (B gp : Nat) (P : Pl) (L : List MKp) (p : Option Addr) (cp : Nat) (r : Rc) (da : Option Addr) (dc : Nat) (ca : Option Addr) (cc : Nat) (w : World) (hP : PlAt w B gp P.me P.tm P.sq P.kp L p cp) (hOk : PlOk P) (hr : r.code = 0) (hi : r.ints) (hsz : r.d.length ≤ 65536 ∧ r.c.length ≤ 65536) (hU : ∀ u, Below B w u → Lies u da (bs r.d) ∧ Lies u ca (bs r.c) ∧ Laid u) (hkd : r.k = 8) :
  Calls Tryz.prog 36 #[.pointer (some ⟨gp, 0, none⟩), rcV r da dc ca cc] w fun e w' => e = .returned (.int .i64 (P.does r).1) ∧ Shut (DoR B gp w (P.does r).1 (P.does r).2 w') := by
 have hBw : B ≤ w.heap.size := by have := hP.lo; have := hP.lt; omega
 obtain ⟨W, hW⟩ : ∃ W, w.alloc (.cells #[.int .i64 r.k, .int .i64 r.p, .int .i64 r.n, .int .i64 r.y, .int .i64 r.h.F, .int .i64 r.h.Q, .int .i64 r.h.T, .int .i64 r.h.L, .int .i64 r.h.B, .int .i64 r.h.K, .int .i64 r.id, .slice da r.d.length dc, .slice ca r.c.length cc] 40) = W := ⟨_, rfl⟩
 have hb : Below w.heap.size w W := by rw [← hW]; exact (Below.refl _ _).alloc (Nat.le_refl _) _
 have hk : W.heap[w.heap.size]? = some (.cells #[.int .i64 r.k, .int .i64 r.p, .int .i64 r.n, .int .i64 r.y, .int .i64 r.h.F, .int .i64 r.h.Q, .int .i64 r.h.T, .int .i64 r.h.L, .int .i64 r.h.B, .int .i64 r.h.K, .int .i64 r.id, .slice da r.d.length dc, .slice ca r.c.length cc] 40 (0, 0)) := by rw [← hW, heap_alloc_eq, if_pos rfl]
 have hPW := hP.below hb
 have hbB : Below B w W := hb.mono hBw
 have HW := Shut.mk hW
 have HK := Shut.mk hkd
 obtain ⟨a0, a1, a2, a3, a4, a5, a6, a7, a8, a9, a10, a11, a12⟩ := rcBox hk
 have e1 : (r.k == 1) = false := by rw [hkd]; rfl
 have e8 : (r.k == 8) = true := by rw [hkd]; rfl
 have e2 : (r.k == 2) = false := by rw [hkd]; rfl
 have e3 : (r.k == 3) = false := by rw [hkd]; rfl
 have e4 : (r.k == 4) = false := by rw [hkd]; rfl
 have e5 : (r.k == 5) = false := by rw [hkd]; rfl
 have e6 : (r.k == 6) = false := by rw [hkd]; rfl
 have HR := Shut.mk (show P.does r = P.tick r.n from by unfold Pl.does; rw [if_neg (by rw [hkd]; decide), if_pos hkd])
 have hS := tick_any B gp P L p cp r.n W hPW hOk.few
 have HB := Shut.mk hbB
 clear hW hk hP hPW hbB hi hsz hU hkd hOk hr hb hBw
 unfold rcV
 go_enter Tryz.func36, Tryz.ntmps36
 go_upto_region 1 with fail
 rw [HW.out]
 clear HW
 go_wp2_with fail
 refine hS.mono ?_
 rintro e W1 ⟨rfl, HS⟩
 clear hS a0 a1 a2 a3 a4 a5 a6 a7 a8 a9 a10 a11 a12
 go_wp2
 go_ret
 rw [HR.out]
 exact ⟨rfl, ⟨HS.out.up HB.out⟩⟩

end Go.Proofs.YtakkajjoeimkdaaGreatDoor

namespace Go.Proofs.YtakkajjoeimkdaaGreatDoor
open Go.RowKit
set_option linter.unusedVariables false
set_option linter.unusedSimpArgs false

theorem hd_bytes {h : Hd} (e : hdCode h = 0) : 1 ≤ h.B ∧ h.B ≤ 360 ∧ 1 ≤ h.K ∧ h.K ≤ 16 := by
 unfold hdCode at e
 split at e
 ·omega
 ·split at e
  ·omega
  ·unfold chkP at e
   split at e
   ·omega
   ·omega

theorem chkS_len {B K id : Int} {n : Nat} (h : chkS B K id n = 0) : (n : Int) = K ∧ K ≤ 16 := by
 unfold chkS at h
 split at h
 ·rename_i h1; exact absurd h h1
 ·rename_i h1
  have h1' := Classical.not_not.1 h1
  split at h
  ·omega
  ·split at h
   ·omega
   ·rename_i h3
    refine ⟨Classical.not_not.1 h3, ?_⟩
    unfold chkP at h1'
    split at h1'
    ·omega
    ·omega

theorem syms_len {B K : Int} : ∀ (l a : List LSym), symsFrom B K a l = 0 → ∀ s ∈ l, s.2.length ≤ 16
 | [], _, _, _, hs => by cases hs
 | y :: l, a, h, s, hs => by
  unfold symsFrom at h
  split at h
  ·rename_i h1; exact absurd h h1
  ·rename_i h1
   split at h
   ·omega
   ·rcases List.mem_cons.1 hs with rfl | hs
    ·have := chkS_len (Classical.not_not.1 h1)
     omega
    ·exact syms_len l _ h s hs

theorem KpOk.small {me tm sq : Int} {k : Kp} (h : KpOk me tm sq k) : k.small := by
 have hb := hd_bytes h.hd
 refine ⟨?_, by have := h.few.1; omega, by have := h.few.2; omega, fun s hs => by have := syms_len _ _ h.syms s hs; omega⟩
 have ho := h.own
 unfold Kp.owned at ho
 simp only [Bool.and_eq_true, Bool.or_eq_true, decide_eq_true_eq] at ho
 rcases ho.2 with h1 | h1
 ·have := h1.2.1; omega
 ·omega

theorem rc_sizes {r : Rc} (h : r.code = 0) : r.d.length ≤ 65536 ∧ r.c.length ≤ 65536 := by
 obtain ⟨fk, ⟨fp, fy, fn⟩, fh, fs, fc⟩ := rc_facts h
 unfold Rc.code at h
 rw [← ownCode_rec] at h
 unfold ownCode at h
 rw [if_neg (fun e => e fk)] at h
 split at h
 ·omega
 ·rename_i hn
  have hn' : needless r.k r.p r.n r.y r.h r.id r.d.length r.c.length = false := by simpa using hn
  unfold needless at hn'
  simp only [Bool.or_eq_false_iff] at hn'
  obtain ⟨⟨⟨⟨⟨_, _⟩, _⟩, _⟩, h5⟩, h6⟩ := hn'
  constructor
  ·by_cases k2 : r.k = 2
   ·have := chkS_len (fs k2)
    omega
   ·have e : inK r.k [2] = false := by simp [inK]; omega
    rw [e] at h5
    simp at h5
    have := h5.2
    rw [this]
    exact Nat.zero_le _
  ·by_cases k13 : r.k = 1 ∨ r.k = 3
   ·have h1 := fc k13
    have h2 := hd_bytes (fh (by omega))
    omega
   ·have e : inK r.k [1, 3] = false := by simp [inK]; omega
    rw [e] at h6
    simp at h6
    rw [h6]
    exact Nat.zero_le _

theorem do_any (B gp : Nat) (P : Pl) (L : List MKp) (p : Option Addr) (cp : Nat) (r : Rc) (da : Option Addr) (dc : Nat) (ca : Option Addr) (cc : Nat) (w : World) (hP : PlAt w B gp P.me P.tm P.sq P.kp L p cp) (hOk : PlOk P) (hr : r.code = 0) (hi : r.ints) (hU : ∀ u, Below B w u → Lies u da (bs r.d) ∧ Lies u ca (bs r.c) ∧ Laid u) :
  Calls Tryz.prog 36 #[.pointer (some ⟨gp, 0, none⟩), rcV r da dc ca cc] w fun e w' => e = .returned (.int .i64 (P.does r).1) ∧ Shut (DoR B gp w (P.does r).1 (P.does r).2 w') := by
 have hk := (rc_facts hr).1
 have hsz := rc_sizes hr
 have hc : r.k = 1 ∨ r.k = 2 ∨ r.k = 3 ∨ r.k = 4 ∨ r.k = 5 ∨ r.k = 6 ∨ r.k = 7 ∨ r.k = 8 := by omega
 rcases hc with h | h | h | h | h | h | h | h
 ·exact do_send B gp P L p cp r da dc ca cc w hP hOk hr hi hsz hU h
 ·exact do_keep B gp P L p cp r da dc ca cc w hP hOk hr hi hsz hU h
 ·exact do_deliver B gp P L p cp r da dc ca cc w hP hOk hr hi hsz hU h
 ·exact do_give B gp P L p cp r da dc ca cc w hP hOk hr hi hsz hU h
 ·exact do_given B gp P L p cp r da dc ca cc w hP hOk hr hi hsz hU h
 ·exact do_take B gp P L p cp r da dc ca cc w hP hOk hr hi hsz hU h
 ·exact do_purge B gp P L p cp r da dc ca cc w hP hOk hr hi hsz hU h
 ·exact do_tick B gp P L p cp r da dc ca cc w hP hOk hr hi hsz hU h

theorem PlNew.low {B B' : Nat} {w : World} {l : List Kp} {L : List MKp} {p : Option Addr} {cp : Nat} (h : PlNew B w l L p cp) (hB : B' ≤ B) : PlNew B' w l L p cp := ⟨h.says, own_low h.own hB, fun m hm => ⟨(h.new m hm).1.mono hB, (h.new m hm).2⟩, h.far⟩

theorem PlNew.none (B : Nat) (w : World) : PlNew B w [] [] none 0 := ⟨rfl, World.ownsRow_nil _ _ _ _, fun m hm => (by cases hm), fun i j m m' _ e => (by cases e)⟩

end Go.Proofs.YtakkajjoeimkdaaGreatDoor

namespace Go.Proofs.YtakkajjoeimkdaaGreatDoor
open Go.RowKit
set_option linter.unusedVariables false
set_option linter.unusedSimpArgs false
attribute [local go_sem ↓] Go.wp_at_zero Go.wp_at_succ

def NextR (w : World) (P : Pl) (r : Rc) (e : Ending) (w' : World) : Prop :=
 ∃ (L : List MKp) (p : Option Addr) (cp : Nat), e = .returned (.tuple #[.agg #[.int .i64 (P.next r).me, .slice p (P.next r).kp.length cp, .int .i64 (P.next r).tm, .int .i64 (P.next r).sq], .int .i64 (P.nextCode r)]) ∧ Shut (PlNew w.heap.size w' (P.next r).kp L p cp ∧ Below w.heap.size w w')

theorem NextR.bad {w w' : World} {P : Pl} {r : Rc} {z : Int} (hz : P.nextCode r = z) (hne : z ≠ 0) (hb : Below w.heap.size w w') : NextR w P r (.returned (.tuple #[.agg #[.int .i64 0, .slice none 0 0, .int .i64 0, .int .i64 0], .int .i64 z])) w' := by
 have e : P.next r = pl0 := next_bad (by rw [hz]; exact hne)
 refine ⟨[], none, 0, ?_, ?_⟩
 ·rw [e, hz]; rfl
 ·rw [e]; exact ⟨PlNew.none _ _, hb⟩

set_option maxHeartbeats 8000000 in
set_option maxRecDepth 8000 in
theorem placeNext_any (P : Pl) (pa : Option Addr) (pc : Nat) (l : List MKp) (r : Rc) (da : Option Addr) (dc : Nat) (ca : Option Addr) (cc : Nat) (w : World) (hl : Lies w pa (kpCells l)) (hall : ∀ m ∈ l, KpGood w m) (hlm : l.length ≤ maxLen) (hlc : l.length ≤ pc) (hs : l.map MKp.k = P.kp) (hi : r.ints) (hd : r.d.length ≤ maxLen) (hda : Lies w da (bs r.d)) (hca : Lies w ca (bs r.c)) (hL : Laid w) :
  Calls Tryz.prog 12 #[.agg #[.int .i64 P.me, .slice pa l.length pc, .int .i64 P.tm, .int .i64 P.sq], rcV r da dc ca cc] w (NextR w P r) := by
 obtain ⟨n, hn⟩ : ∃ n, l.length = n := ⟨_, rfl⟩
 obtain ⟨W, hW⟩ : ∃ W, ((w.alloc (.cells #[.int .i64 P.me, .slice pa n pc, .int .i64 P.tm, .int .i64 P.sq] 25)).alloc (.cells #[.int .i64 r.k, .int .i64 r.p, .int .i64 r.n, .int .i64 r.y, .int .i64 r.h.F, .int .i64 r.h.Q, .int .i64 r.h.T, .int .i64 r.h.L, .int .i64 r.h.B, .int .i64 r.h.K, .int .i64 r.id, .slice da r.d.length dc, .slice ca r.c.length cc] 40)).alloc (.cells #[.int .i64 0, .slice none 0 0, .int .i64 0, .int .i64 0] 25) = W := ⟨_, rfl⟩
 have hb : Below w.heap.size w W := by rw [← hW]; exact (((Below.refl _ _).alloc (Nat.le_refl _) _).alloc (by simp) _).alloc (by simp; omega) _
 have hp : W.heap[w.heap.size]? = some (.cells #[.int .i64 P.me, .slice pa n pc, .int .i64 P.tm, .int .i64 P.sq] 25 (0, 0)) := by rw [← hW, heap_alloc_eq, if_neg (by simp; omega), heap_alloc_eq, if_neg (by simp), heap_alloc_eq, if_pos rfl]
 have hk : W.heap[w.heap.size + 1]? = some (.cells #[.int .i64 r.k, .int .i64 r.p, .int .i64 r.n, .int .i64 r.y, .int .i64 r.h.F, .int .i64 r.h.Q, .int .i64 r.h.T, .int .i64 r.h.L, .int .i64 r.h.B, .int .i64 r.h.K, .int .i64 r.id, .slice da r.d.length dc, .slice ca r.c.length cc] 40 (0, 0)) := by rw [← hW, heap_alloc_eq, if_neg (by simp), heap_alloc_eq, if_pos (by simp)]
 have hz : W.heap[w.heap.size + 2]? = some (.cells #[.int .i64 0, .slice none 0 0, .int .i64 0, .int .i64 0] 25 (0, 0)) := by rw [← hW, heap_alloc_eq, if_pos (by simp)]
 have hCk := check_place P.me P.tm P.sq pa pc l W (hl.below hb (Nat.le_refl _)) (fun m hm => (hall m hm).below hb) hlm hlc
 have hPe : (⟨P.me, l.map MKp.k, P.tm, P.sq⟩ : Pl) = P := by rw [hs]
 rw [hPe, hn] at hCk
 rw [hn]
 obtain ⟨b0, b1, b2, b3⟩ := plBox hp
 obtain ⟨a0, a1, a2, a3, a4, a5, a6, a7, a8, a9, a10, a11, a12⟩ := rcBox hk
 have HW := Shut.mk hW
 have H := Shut.mk (And.intro hb (And.intro hp (And.intro hk (And.intro hz (And.intro hl (And.intro hall (And.intro hn (And.intro hs (And.intro hi (And.intro hd (And.intro hda (And.intro hca hL))))))))))))
 obtain ⟨z1, hz1⟩ : ∃ z1, P.code = z1 := ⟨_, rfl⟩
 rw [hz1] at hCk
 have HZ1 := Shut.mk hz1
 clear hW hp hk hz hl hall hn hs hi hd hda hca hL hlm hlc hPe hz1
 have hbW := hb
 clear hb
 unfold rcV
 go_enter Tryz.func12, Tryz.ntmps12
 go_upto_region 1 with fail
 rw [HW.out]
 clear HW
 go_wp2_with fail
 refine hCk.mono ?_
 rintro e W1 ⟨rfl, hb1⟩
 have hbw1 := hbW.trans (hb1.mono hbW.size)
 have hp1 := blkB H.out.2.1 hb1
 have hk1 := blkB H.out.2.2.1 hb1
 have hr1 := blkB H.out.2.2.2.1 hb1
 clear hCk b0 b1 b2 b3 a0 a1 a2 a3 a4 a5 a6 a7 a8 a9 a10 a11 a12 hb1 hbW
 obtain ⟨g0, g1, g2, g3⟩ := plBox hr1
 have f0 := frzB hr1 0
 have f1 := frzB hr1 1
 have f2 := frzB hr1 2
 have f3 := frzB hr1 3
 rcases eqDec z1 0 with ⟨y1, y2, y3, y4⟩ | ⟨y1, y2, y3, y4⟩
 case inr =>
  have HC := Shut.mk (show P.nextCode r = z1 from by unfold Pl.nextCode; rw [if_pos (by rw [HZ1.out]; exact y1), HZ1.out])
  have HY := Shut.mk y1
  clear y1
  go_wp2
  obtain ⟨W9, hW9, hb9, hk9, hB9⟩ := box4 W1 (w.heap.size + 2) 25 _ _ _ _ (.int .i64 0) (.slice none 0 0) (.int .i64 0) (.int .i64 0) hr1
  rw [hW9]
  have R : Shut (NextR w P r (.returned (.tuple #[.agg #[.int .i64 0, .slice none 0 0, .int .i64 0, .int .i64 0], .int .i64 z1])) W9) := ⟨NextR.bad HC.out HY.out (hB9 _ _ (by omega) hbw1)⟩
  clear hW9 hk9 hB9 g0 g1 g2 g3 f0 f1 f2 f3 hr1
  obtain ⟨g0, g1, g2, g3⟩ := plBox hb9
  refine bodyPost_ret (v := .tuple #[.agg #[.int .i64 0, .slice none 0 0, .int .i64 0, .int .i64 0], .int .i64 z1]) (by simp [results, Tryz.results12, go_sem, g0, g1, g2, g3]) rfl ?_
  exact R.out
 case inl =>
  subst y1
  have hOk := code_zero.1 HZ1.out
  have hNc := noteCheck_any r da dc ca cc W1 H.out.2.2.2.2.2.2.2.2.1 H.out.2.2.2.2.2.2.2.2.2.1
  simp only [rcV] at hNc
  obtain ⟨z2, hz2⟩ : ∃ z2, r.code = z2 := ⟨_, rfl⟩
  rw [hz2] at hNc
  have HZ2 := Shut.mk hz2
  obtain ⟨a0, a1, a2, a3, a4, a5, a6, a7, a8, a9, a10, a11, a12⟩ := rcBox hk1
  clear hz2 g0 g1 g2 g3 f0 f1 f2 f3
  go_wp2_with fail
  refine hNc.mono ?_
  rintro e W2 ⟨rfl, hb2⟩
  have hbw2 := hbw1.trans (hb2.mono hbw1.size)
  have hp2 := blkB hp1 hb2
  have hk2 := blkB hk1 hb2
  have hr2 := blkB hr1 hb2
  clear hNc a0 a1 a2 a3 a4 a5 a6 a7 a8 a9 a10 a11 a12 hb2 hbw1 hp1 hk1 hr1
  rcases eqDec z2 0 with ⟨x1, x2, x3, x4⟩ | ⟨x1, x2, x3, x4⟩
  case inr =>
   have HC := Shut.mk (show P.nextCode r = z2 from by unfold Pl.nextCode; rw [if_neg (fun e => e HZ1.out), if_pos (by rw [HZ2.out]; exact x1), HZ2.out])
   have HY := Shut.mk x1
   clear x1
   obtain ⟨g0, g1, g2, g3⟩ := plBox hr2
   have f0 := frzB hr2 0
   have f1 := frzB hr2 1
   have f2 := frzB hr2 2
   have f3 := frzB hr2 3
   go_wp2
   obtain ⟨W9, hW9, hb9, hk9, hB9⟩ := box4 W2 (w.heap.size + 2) 25 _ _ _ _ (.int .i64 0) (.slice none 0 0) (.int .i64 0) (.int .i64 0) hr2
   rw [hW9]
   have R : Shut (NextR w P r (.returned (.tuple #[.agg #[.int .i64 0, .slice none 0 0, .int .i64 0, .int .i64 0], .int .i64 z2])) W9) := ⟨NextR.bad HC.out HY.out (hB9 _ _ (by omega) hbw2)⟩
   clear hW9 hk9 hB9 g0 g1 g2 g3 f0 f1 f2 f3 hr2
   obtain ⟨g0, g1, g2, g3⟩ := plBox hb9
   refine bodyPost_ret (v := .tuple #[.agg #[.int .i64 0, .slice none 0 0, .int .i64 0, .int .i64 0], .int .i64 z2]) (by simp [results, Tryz.results12, go_sem, g0, g1, g2, g3]) rfl ?_
   exact R.out
  case inl =>
   subst x1
   have hsm : ∀ m ∈ l, KpIn W2 m ∧ m.k.small := fun m hm => ⟨((H.out.2.2.2.2.2.1 m hm).below hbw2).inn, by
    have hmem : m.k ∈ P.kp := by rw [← H.out.2.2.2.2.2.2.2.1]; exact List.mem_map.2 ⟨m, hm, rfl⟩
    exact (kcode_zero.1 (hOk.all _ hmem)).small⟩
   have hln : n ≤ 12 := by have := hOk.few; rw [← H.out.2.2.2.2.2.2.2.1, List.length_map, H.out.2.2.2.2.2.2.1] at this; exact this
   have hCp := placeCopy_any P.me P.tm P.sq pa pc l W2 (H.out.2.2.2.2.1.below hbw2 (Nat.le_refl _)) hsm (by rw [H.out.2.2.2.2.2.2.1]; omega)
   rw [H.out.2.2.2.2.2.2.1, H.out.2.2.2.2.2.2.2.1] at hCp
   obtain ⟨b0, b1, b2, b3⟩ := plBox hp2
   clear hsm
   go_wp2_with fail
   refine hCp.mono ?_
   rintro e W3 ⟨L3, p3, c3, rfl, H3⟩
   have hbw3 := hbw2.trans (H3.out.2.mono hbw2.size)
   have hk3 := blkB hk2 H3.out.2
   have hr3 := blkB hr2 H3.out.2
   have hr2' := hr2
   clear hCp b0 b1 b2 b3 hp2 hk2 hr2
   go_upto_region 8 with fail
   obtain ⟨V, hV⟩ : ∃ V, W3.alloc (.cells #[.int .i64 P.me, .slice p3 n c3, .int .i64 P.tm, .int .i64 P.sq] 25) = V := ⟨_, rfl⟩
   rw [hV]
   have hb4 : Below W3.heap.size W3 V := by rw [← hV]; exact (Below.refl _ _).alloc (Nat.le_refl _) _
   have hbx : V.heap[W3.heap.size]? = some (.cells #[.int .i64 P.me, .slice p3 n c3, .int .i64 P.tm, .int .i64 P.sq] 25 (0, 0)) := by rw [← hV, heap_alloc_eq, if_pos rfl]
   have hpn : P.kp.length = n := by rw [← H.out.2.2.2.2.2.2.2.1, List.length_map]; exact H.out.2.2.2.2.2.2.1
   have hPA : PlAt V W2.heap.size W3.heap.size P.me P.tm P.sq P.kp L3 p3 c3 := by
    have hpl := H3.out.1
    refine ⟨by rw [hpn]; exact hbx, hpl.below hb4, H3.out.2.size, fun g o e => by have := (hpl.own.lt g (by rw [e]; rfl)).2; omega, fun m hm => ?_⟩
    have h1 := (hpl.new m hm).1
    exact ⟨farM_old h1.inn (Nat.le_refl _), fun e => by have := (h1.grow_lt e).2; omega⟩
   have hbV := hbw3.trans (hb4.mono hbw3.size)
   have hDo := do_any W2.heap.size W3.heap.size P L3 p3 c3 r da dc ca cc V hPA hOk HZ2.out H.out.2.2.2.2.2.2.2.2.1 (fun u hu' => have hu := hu'.mono hbw2.size; ⟨H.out.2.2.2.2.2.2.2.2.2.2.1.below (hbV.trans hu) (Nat.le_refl _), H.out.2.2.2.2.2.2.2.2.2.2.2.1.below (hbV.trans hu) (Nat.le_refl _), H.out.2.2.2.2.2.2.2.2.2.2.2.2.below (hbV.trans hu)⟩)
   simp only [rcV] at hDo
   obtain ⟨a0, a1, a2, a3, a4, a5, a6, a7, a8, a9, a10, a11, a12⟩ := rcBox (blkB hk3 hb4)
   have hs2 : w.heap.size + 2 < W2.heap.size := (Array.getElem?_eq_some_iff.1 hr2').1
   have HV := Shut.mk (And.intro hbV (And.intro (blkB hr3 hb4) (And.intro hPA (And.intro hbw2.size hs2))))
   obtain ⟨z3, hz3⟩ : ∃ z3, (P.does r).1 = z3 := ⟨_, rfl⟩
   rw [hz3] at hDo
   have HC : Shut (P.nextCode r = z3 ∧ (P.does r).1 = z3) := ⟨by unfold Pl.nextCode; rw [if_neg (fun e => e HZ1.out), if_neg (fun e => e HZ2.out), hz3], hz3⟩
   clear hV hb4 hbx hPA hbV hk3 hr3 hbw3 hz3 hr2' hs2
   go_wp2_with fail
   refine hDo.mono ?_
   rintro e W5 ⟨rfl, HD⟩
   clear hDo a0 a1 a2 a3 a4 a5 a6 a7 a8 a9 a10 a11 a12
   have hb5 : Below w.heap.size w W5 := HV.out.1.trans (HD.out.1.mono HV.out.2.2.2.1)
   have hr5 : W5.heap[w.heap.size + 2]? = _ := (HD.out.1.block _ HV.out.2.2.2.2).trans HV.out.2.1
   obtain ⟨g0, g1, g2, g3⟩ := plBox hr5
   have f0 := frzB hr5 0
   have f1 := frzB hr5 1
   have f2 := frzB hr5 2
   have f3 := frzB hr5 3
   rcases eqDec z3 0 with ⟨y1, y2, y3, y4⟩ | ⟨y1, y2, y3, y4⟩
   case inr =>
    have HY := Shut.mk y1
    clear y1
    go_wp2
    obtain ⟨W9, hW9, hb9, hk9, hB9⟩ := box4 W5 (w.heap.size + 2) 25 _ _ _ _ (.int .i64 0) (.slice none 0 0) (.int .i64 0) (.int .i64 0) hr5
    rw [hW9]
    have R : Shut (NextR w P r (.returned (.tuple #[.agg #[.int .i64 0, .slice none 0 0, .int .i64 0, .int .i64 0], .int .i64 z3])) W9) := ⟨NextR.bad HC.out.1 HY.out (hB9 _ _ (by omega) hb5)⟩
    clear hW9 hk9 hB9 g0 g1 g2 g3 f0 f1 f2 f3 hr5 hb5
    obtain ⟨g0, g1, g2, g3⟩ := plBox hb9
    refine bodyPost_ret (v := .tuple #[.agg #[.int .i64 0, .slice none 0 0, .int .i64 0, .int .i64 0], .int .i64 z3]) (by simp [results, Tryz.results12, go_sem, g0, g1, g2, g3]) rfl ?_
    exact R.out
   case inl =>
    subst y1
    obtain ⟨L9, p9, c9, hP9⟩ := HD.out.2 rfl
    have hnx : P.next r = (P.does r).2 := (next_zero HC.out.1).2.2.2
    have HE := Shut.mk (And.intro hnx hP9)
    obtain ⟨d0, d1, d2, d3⟩ := plBox hP9.box
    obtain ⟨nn, hnn⟩ : ∃ nn, (P.does r).2.kp.length = nn := ⟨_, rfl⟩
    have HNN := Shut.mk hnn
    rw [hnn] at d1
    clear hnx hP9 hnn
    go_wp2
    obtain ⟨W9, hW9, hb9, hk9, hB9⟩ := box4 W5 (w.heap.size + 2) 25 _ _ _ _ (.int .i64 (P.does r).2.me) (.slice p9 nn c9) (.int .i64 (P.does r).2.tm) (.int .i64 (P.does r).2.sq) hr5
    rw [hW9]
    have R : Shut (NextR w P r (.returned (.tuple #[.agg #[.int .i64 (P.does r).2.me, .slice p9 nn c9, .int .i64 (P.does r).2.tm, .int .i64 (P.does r).2.sq], .int .i64 0])) W9) := by
     refine ⟨L9, p9, c9, ?_, ?_⟩
     ·rw [HE.out.1, HC.out.1, HNN.out]
     ·rw [HE.out.1]
      have hpl := HE.out.2.pl
      refine ⟨(hpl.off (b := w.heap.size + 2) (fun g o e => ?_) (fun m hm => ?_) hk9).low HV.out.2.2.2.1, hB9 _ _ (by omega) hb5⟩
      ·have h1 := (hpl.own.lt g (by rw [e]; rfl)).1
       have h2 := HV.out.2.2.2.2
       omega
      ·have h1 := (hpl.new m hm).1
       have h2 := HV.out.2.2.2.2
       exact ⟨farM_new h1 h2, fun e => by have := (h1.grow_lt e).1; omega⟩
    clear hW9 hk9 hB9 g0 g1 g2 g3 f0 f1 f2 f3 hr5 hb5 d0 d1 d2 d3
    obtain ⟨g0, g1, g2, g3⟩ := plBox hb9
    refine bodyPost_ret (v := .tuple #[.agg #[.int .i64 (P.does r).2.me, .slice p9 nn c9, .int .i64 (P.does r).2.tm, .int .i64 (P.does r).2.sq], .int .i64 0]) (by simp [results, Tryz.results12, go_sem, g0, g1, g2, g3]) rfl ?_
    exact R.out

set_option maxHeartbeats 4000000 in
set_option maxRecDepth 8000 in
theorem placeNew_any (me : Int) (w : World) :
  Calls Tryz.prog 30 #[.int .i64 me] w fun e w' => ∃ m' : Int, e = .returned (.tuple #[.agg #[.int .i64 m', .slice none 0 0, .int .i64 0, .int .i64 0], .int .i64 (newCode me)]) ∧ Shut ((newCode me = 0 → m' = me) ∧ (newCode me ≠ 0 → m' = 0) ∧ Below w.heap.size w w') := by
 obtain ⟨W, hW⟩ : ∃ W, (w.alloc (.cells #[.int .i64 0, .slice none 0 0, .int .i64 0, .int .i64 0] 25)).alloc (.cells #[.int .i64 me, .slice none 0 0, .int .i64 0, .int .i64 0] 25) = W := ⟨_, rfl⟩
 have hb : Below w.heap.size w W := by rw [← hW]; exact ((Below.refl _ _).alloc (Nat.le_refl _) _).alloc (by simp) _
 have hz : W.heap[w.heap.size]? = some (.cells #[.int .i64 0, .slice none 0 0, .int .i64 0, .int .i64 0] 25 (0, 0)) := by rw [← hW, heap_alloc_eq, if_neg (by simp), heap_alloc_eq, if_pos rfl]
 have hp : W.heap[w.heap.size + 1]? = some (.cells #[.int .i64 me, .slice none 0 0, .int .i64 0, .int .i64 0] 25 (0, 0)) := by rw [← hW, heap_alloc_eq, if_pos (by simp)]
 have hCk0 := check_place me 0 0 none 0 [] W (Lies.nil _ _) (fun m hm => (by cases hm)) (Nat.zero_le _) (Nat.le_refl _)
 have hCk : Calls Tryz.prog 33 #[.agg #[.int .i64 me, .slice none 0 0, .int .i64 0, .int .i64 0]] W fun e w' => e = .returned (.int .i64 (newCode me)) ∧ Below W.heap.size W w' := by
  refine hCk0.mono ?_
  rintro e w' ⟨rfl, h⟩
  exact ⟨by rw [← newCode_eq me]; rfl, h⟩
 obtain ⟨z, hz1⟩ : ∃ z, newCode me = z := ⟨_, rfl⟩
 rw [hz1] at hCk
 have HC := Shut.mk hz1
 rw [hz1]
 obtain ⟨b0, b1, b2, b3⟩ := plBox hp
 have HW := Shut.mk hW
 have H := Shut.mk (And.intro hb (And.intro hz hp))
 clear hb hz hp hW hCk0 hz1
 go_enter Tryz.func30, Tryz.ntmps30
 go_upto_region 2 with fail
 rw [HW.out]
 clear HW
 go_wp2_with fail
 refine hCk.mono ?_
 rintro e W1 ⟨rfl, hb1⟩
 have hbw := H.out.1.trans (hb1.mono H.out.1.size)
 have hz1 := blkB H.out.2.1 hb1
 have hp1 := blkB H.out.2.2 hb1
 clear hCk b0 b1 b2 b3 hb1
 obtain ⟨b0, b1, b2, b3⟩ := plBox hp1
 obtain ⟨g0, g1, g2, g3⟩ := plBox hz1
 have f0 := frzB hz1 0
 have f1 := frzB hz1 1
 have f2 := frzB hz1 2
 have f3 := frzB hz1 3
 rcases eqDec z 0 with ⟨y1, y2, y3, y4⟩ | ⟨y1, y2, y3, y4⟩
 case inr =>
  have Y := Shut.mk y1
  clear y1
  go_wp2
  obtain ⟨W9, hW9, hb9, hk9, hB9⟩ := box4 W1 w.heap.size 25 _ _ _ _ (.int .i64 0) (.slice none 0 0) (.int .i64 0) (.int .i64 0) hz1
  rw [hW9]
  have R := hB9 _ _ (Nat.le_refl _) hbw
  clear hW9 hk9 hB9 g0 g1 g2 g3 f0 f1 f2 f3 hz1 b0 b1 b2 b3
  obtain ⟨g0, g1, g2, g3⟩ := plBox hb9
  refine bodyPost_ret (v := .tuple #[.agg #[.int .i64 0, .slice none 0 0, .int .i64 0, .int .i64 0], .int .i64 z]) (by simp [results, Tryz.results30, go_sem, g0, g1, g2, g3]) rfl ?_
  exact ⟨0, rfl, ⟨fun e => absurd e Y.out, fun _ => rfl, R⟩⟩
 case inl =>
  subst y1
  go_wp2
  obtain ⟨W9, hW9, hb9, hk9, hB9⟩ := box4 W1 w.heap.size 25 _ _ _ _ (.int .i64 me) (.slice none 0 0) (.int .i64 0) (.int .i64 0) hz1
  rw [hW9]
  have R := hB9 _ _ (Nat.le_refl _) hbw
  clear hW9 hk9 hB9 g0 g1 g2 g3 f0 f1 f2 f3 hz1 b0 b1 b2 b3
  obtain ⟨g0, g1, g2, g3⟩ := plBox hb9
  refine bodyPost_ret (v := .tuple #[.agg #[.int .i64 me, .slice none 0 0, .int .i64 0, .int .i64 0], .int .i64 0]) (by simp [results, Tryz.results30, go_sem, g0, g1, g2, g3]) rfl ?_
  exact ⟨me, rfl, ⟨by first | exact ⟨fun _ => rfl, fun e => absurd rfl e, R⟩ | exact ⟨rfl, R⟩⟩⟩

end Go.Proofs.YtakkajjoeimkdaaGreatDoor
