import Derived.Test.YtakkajjoeimkdaaGreatDoorPart25
import Derived.Test.YtakkajjoeimkdaaGreatDoorPart26
import Derived.Test.YtakkajjoeimkdaaGreatDoorPart7
import Derived.Test.YtakkajjoeimkdaaGreatDoorPart19
namespace Go.Proofs.YtakkajjoeimkdaaGreatDoor
open Go.RowKit
set_option linter.unusedVariables false
set_option linter.unusedSimpArgs false

theorem DoR.up {B gp : Nat} {w W w' : World} {z : Int} {P : Pl} (h : DoR B gp W z P w') (hb : Below B w W) : DoR B gp w z P w' := ⟨hb.trans h.1, h.2⟩

theorem DoesR.grows {B : Nat} {w w' : World} {g o : Nat} {pre post : List Value} {z : Int} {m : MKp} {k' : Kp} (h : DoesR w g o pre post z { m with k := k' } w') (hN : NewM w B m) (hf : FarM g m) (hgr : ¬ growB m g) (hg : B ≤ g) (hB : B ≤ w.heap.size) (e8 : k'.c = m.k.c) (e9 : k'.ss = m.k.ss) (e10 : k'.tk = m.k.tk) :
  GrowsR B w g o pre post m z k' w' := ⟨grown_below h.2 hg hB, fun hz => ⟨_, rfl, ChgR.of h hz hN hf hgr hg rfl rfl rfl rfl rfl rfl rfl e8 e9 e10⟩⟩

theorem PlAt.chg {B gp i : Nat} {me tm sq : Int} {w w' : World} {l : List Kp} {L : List MKp} {g cp : Nat} {m m' : MKp} {post : List Value} (h : PlAt w B gp me tm sq l L (some ⟨g, 0, none⟩) cp) (hm : L[i]? = some m)
  (hown : w'.ownsRow B 88 16 (.slice (some ⟨g, 0, none⟩) l.length cp) l.length (kpCells (L.set i m'))) (hc : ChgR B w w' g (16 * i) (kpCells (L.take i)) post m m') : PlAt w' B gp me tm sq (l.set i m'.k) (L.set i m') (some ⟨g, 0, none⟩) cp := by
 have hmm := h.off m (List.mem_of_getElem? hm)
 refine ⟨?_, h.pl.chg hm hown hc, h.lo, h.ne, fun x hx => ?_⟩
 ·rw [List.length_set]
  exact (hc.rest gp h.lt (fun e => h.ne g 0 rfl e.symm) hmm.2).trans h.box
 ·rcases List.mem_or_eq_of_mem_set hx with hx | rfl
  ·exact h.off x hx
  ·exact hc.far gp h.lt hmm.1 hmm.2

theorem meth {B gp i : Nat} {me tm sq : Int} {w : World} {l : List Kp} {L : List MKp} {g cp : Nat} {m : MKp} (h : PlAt w B gp me tm sq l L (some ⟨g, 0, none⟩) cp) (hm : L[i]? = some m) :
  ∃ post, At16 w g (i * 16) (kpCells (L.take i)) post m.cells ∧ NewM w B m ∧ FarM g m ∧ ¬ growB m g ∧ B ≤ g ∧ B ≤ w.heap.size ∧
   ∀ (z : Int) (k' : Kp) (w' : World), GrowsR B w g (i * 16) (kpCells (L.take i)) post m z k' w' → DoR B gp w z ⟨me, l.set i k', tm, sq⟩ w' := by
 obtain ⟨post, h1, h2⟩ := own_at16 h.pl.own hm
 have hmm := h.pl.new m (List.mem_of_getElem? hm)
 have hg := (h.pl.own.lt g rfl)
 rw [Nat.mul_comm] at h1 h2
 refine ⟨post, h1, hmm.1, (hmm.2 g 0 rfl).1, (hmm.2 g 0 rfl).2, hg.1, by omega, fun z k' w' H => ⟨H.1, fun hz => ?_⟩⟩
 obtain ⟨m', rfl, hc⟩ := H.2 hz
 exact ⟨_, _, _, h.chg hm (h2 w' m' hc.at') (by rw [Nat.mul_comm]; exact hc)⟩

theorem bundle_good {P : Pl} {r : Rc} (hp : PlOk P) (hr : r.code = 0) (k8 : r.k ≠ 8) (hb : (P.bundle r).1 = 0) : ∃ k, (P.bundle r).2.1[(P.bundle r).2.2]? = some k ∧ KpOk P.me P.tm P.sq k ∧ k.h = r.h := by
 obtain ⟨fk, ⟨fp, fy, fn⟩, fh, fs, fc⟩ := rc_facts hr
 cases e : findL P.kp r.h.F r.h.Q with
 | none =>
  obtain ⟨b1, b2, b3, b4, b5⟩ := bundle_none hp e hb
  rw [b1]
  exact ⟨kp0 r.h, insK_at _ (placeOf_le _ _), kp0_ok (fh k8) b3 b4, rfl⟩
 | some i =>
  obtain ⟨b1, b3, hi, hih⟩ := bundle_some e hb
  rw [b1]
  exact ⟨P.kp[i], List.getElem?_eq_getElem hi, hp.bun (List.getElem_mem hi), hih⟩

theorem does_of {P : Pl} {r : Rc} {k : Kp} (k1 : r.k ≠ 1) (k8 : r.k ≠ 8) (hb : (P.bundle r).1 = 0) (hk : (P.bundle r).2.1[(P.bundle r).2.2]? = some k) : P.does r = ((k.does P.me r).1, ⟨P.me, (P.bundle r).2.1.set (P.bundle r).2.2 (k.does P.me r).2, P.tm, P.sq⟩) := by
 unfold Pl.does
 rw [if_neg k1, if_neg k8, if_neg (fun e => e hb), hk]

end Go.Proofs.YtakkajjoeimkdaaGreatDoor

namespace Go.Proofs.YtakkajjoeimkdaaGreatDoor
open Go.RowKit
set_option linter.unusedVariables false
set_option linter.unusedSimpArgs false
attribute [local go_sem ↓] Go.wp_at_zero Go.wp_at_succ

set_option maxHeartbeats 8000000 in
set_option maxRecDepth 8000 in
theorem do_send (B gp : Nat) (P : Pl) (L : List MKp) (p : Option Addr) (cp : Nat) (r : Rc) (da : Option Addr) (dc : Nat) (ca : Option Addr) (cc : Nat) (w : World) (hP : PlAt w B gp P.me P.tm P.sq P.kp L p cp) (hOk : PlOk P) (hr : r.code = 0) (hi : r.ints) (hsz : r.d.length ≤ 65536 ∧ r.c.length ≤ 65536) (hU : ∀ u, Below B w u → Lies u da (bs r.d) ∧ Lies u ca (bs r.c) ∧ Laid u) (hkd : r.k = 1) :
  Calls Tryz.prog 36 #[.pointer (some ⟨gp, 0, none⟩), rcV r da dc ca cc] w fun e w' => e = .returned (.int .i64 (P.does r).1) ∧ Shut (DoR B gp w (P.does r).1 (P.does r).2 w') := by
 have hBw : B ≤ w.heap.size := by have := hP.lo; have := hP.lt; omega
 obtain ⟨W, hW⟩ : ∃ W, w.alloc (.cells #[.int .i64 r.k, .int .i64 r.p, .int .i64 r.n, .int .i64 r.y, .int .i64 r.h.F, .int .i64 r.h.Q, .int .i64 r.h.T, .int .i64 r.h.L, .int .i64 r.h.B, .int .i64 r.h.K, .int .i64 r.id, .slice da r.d.length dc, .slice ca r.c.length cc] 40) = W := ⟨_, rfl⟩
 have hb : Below w.heap.size w W := by rw [← hW]; exact (Below.refl _ _).alloc (Nat.le_refl _) _
 have hk : W.heap[w.heap.size]? = some (.cells #[.int .i64 r.k, .int .i64 r.p, .int .i64 r.n, .int .i64 r.y, .int .i64 r.h.F, .int .i64 r.h.Q, .int .i64 r.h.T, .int .i64 r.h.L, .int .i64 r.h.B, .int .i64 r.h.K, .int .i64 r.id, .slice da r.d.length dc, .slice ca r.c.length cc] 40 (0, 0)) := by rw [← hW, heap_alloc_eq, if_pos rfl]
 have hPW := hP.below hb
 have hbB : Below B w W := hb.mono hBw
 have HW := Shut.mk hW
 have HK := Shut.mk hkd
 obtain ⟨a0, a1, a2, a3, a4, a5, a6, a7, a8, a9, a10, a11, a12⟩ := rcBox hk
 have e1 : (r.k == 1) = true := by rw [hkd]; rfl
 have e8 : (r.k == 8) = false := by rw [hkd]; rfl
 have e2 : (r.k == 2) = false := by rw [hkd]; rfl
 have e3 : (r.k == 3) = false := by rw [hkd]; rfl
 have e4 : (r.k == 4) = false := by rw [hkd]; rfl
 have e5 : (r.k == 5) = false := by rw [hkd]; rfl
 have e6 : (r.k == 6) = false := by rw [hkd]; rfl
 have HR := Shut.mk (show P.does r = P.send r from by unfold Pl.does; rw [if_pos hkd])
 have hS := send_any B gp P L p cp r da dc ca cc W hPW (hU W hbB).2.1 hsz.2 (by have := hOk.sq; omega)
 simp only [rcV] at hS
 have HB := Shut.mk hbB
 clear hW hk hP hPW hbB hi hsz hU hkd hOk hr hb hBw
 unfold rcV
 go_enter Tryz.func36, Tryz.ntmps36
 go_upto_region 1 with fail
 rw [HW.out]
 clear HW
 go_wp2_with fail
 refine hS.mono ?_
 rintro e W1 ⟨rfl, HS⟩
 clear hS a0 a1 a2 a3 a4 a5 a6 a7 a8 a9 a10 a11 a12
 go_wp2
 go_ret
 rw [HR.out]
 exact ⟨rfl, ⟨HS.out.up HB.out⟩⟩

set_option maxHeartbeats 8000000 in
set_option maxRecDepth 8000 in
theorem do_keep (B gp : Nat) (P : Pl) (L : List MKp) (p : Option Addr) (cp : Nat) (r : Rc) (da : Option Addr) (dc : Nat) (ca : Option Addr) (cc : Nat) (w : World) (hP : PlAt w B gp P.me P.tm P.sq P.kp L p cp) (hOk : PlOk P) (hr : r.code = 0) (hi : r.ints) (hsz : r.d.length ≤ 65536 ∧ r.c.length ≤ 65536) (hU : ∀ u, Below B w u → Lies u da (bs r.d) ∧ Lies u ca (bs r.c) ∧ Laid u) (hkd : r.k = 2) :
  Calls Tryz.prog 36 #[.pointer (some ⟨gp, 0, none⟩), rcV r da dc ca cc] w fun e w' => e = .returned (.int .i64 (P.does r).1) ∧ Shut (DoR B gp w (P.does r).1 (P.does r).2 w') := by
 have hBw : B ≤ w.heap.size := by have := hP.lo; have := hP.lt; omega
 obtain ⟨W, hW⟩ : ∃ W, w.alloc (.cells #[.int .i64 r.k, .int .i64 r.p, .int .i64 r.n, .int .i64 r.y, .int .i64 r.h.F, .int .i64 r.h.Q, .int .i64 r.h.T, .int .i64 r.h.L, .int .i64 r.h.B, .int .i64 r.h.K, .int .i64 r.id, .slice da r.d.length dc, .slice ca r.c.length cc] 40) = W := ⟨_, rfl⟩
 have hb : Below w.heap.size w W := by rw [← hW]; exact (Below.refl _ _).alloc (Nat.le_refl _) _
 have hk : W.heap[w.heap.size]? = some (.cells #[.int .i64 r.k, .int .i64 r.p, .int .i64 r.n, .int .i64 r.y, .int .i64 r.h.F, .int .i64 r.h.Q, .int .i64 r.h.T, .int .i64 r.h.L, .int .i64 r.h.B, .int .i64 r.h.K, .int .i64 r.id, .slice da r.d.length dc, .slice ca r.c.length cc] 40 (0, 0)) := by rw [← hW, heap_alloc_eq, if_pos rfl]
 have hPW := hP.below hb
 have hbB : Below B w W := hb.mono hBw
 have HW := Shut.mk hW
 have HK := Shut.mk hkd
 obtain ⟨a0, a1, a2, a3, a4, a5, a6, a7, a8, a9, a10, a11, a12⟩ := rcBox hk
 have e1 : (r.k == 1) = false := by rw [hkd]; rfl
 have e8 : (r.k == 8) = false := by rw [hkd]; rfl
 have e2 : (r.k == 2) = true := by rw [hkd]; rfl
 have e3 : (r.k == 3) = false := by rw [hkd]; rfl
 have e4 : (r.k == 4) = false := by rw [hkd]; rfl
 have e5 : (r.k == 5) = false := by rw [hkd]; rfl
 have e6 : (r.k == 6) = false := by rw [hkd]; rfl
 have k1 : r.k ≠ 1 := by rw [hkd]; decide
 have k8 : r.k ≠ 8 := by rw [hkd]; decide
 have hBn := bundleOf_any B gp P L p cp r da dc ca cc W hPW hOk.few
 simp only [rcV] at hBn
 obtain ⟨z, hz⟩ : ∃ z, (P.bundle r).1 = z := ⟨_, rfl⟩
 rw [hz] at hBn
 have G := Shut.mk (And.intro hz (And.intro hOk (And.intro hr (And.intro k1 (And.intro k8 (And.intro hP (And.intro hk (And.intro hb (And.intro hbB (And.intro hi (And.intro hsz (And.intro hU hPW))))))))))))
 clear hW hk hP hPW hbB hi hsz hU hkd hz hOk hr k1 k8 hb hBw
 unfold rcV
 go_enter Tryz.func36, Tryz.ntmps36
 go_upto_region 1 with fail
 rw [HW.out]
 clear HW
 go_wp2_with fail
 refine hBn.mono ?_
 rintro e W1 ⟨a, rfl, HBn⟩
 clear hBn a0 a1 a2 a3 a4 a5 a6 a7 a8 a9 a10 a11 a12
 rcases eqDec z 0 with ⟨z1, z2, z3, z4⟩ | ⟨z1, z2, z3, z4⟩
 case inr =>
  have HR := Shut.mk (show P.does r = (z, P) from by unfold Pl.does; rw [if_neg G.out.2.2.2.1, if_neg G.out.2.2.2.2.1, if_pos (by rw [G.out.1]; exact z1), G.out.1])
  have R : Shut (DoR B gp w z P W1) := ⟨G.out.2.2.2.2.2.2.2.2.1.trans HBn.out.1, fun e => absurd e z1⟩
  clear z1
  go_wp2
  go_ret
  rw [HR.out]
  exact ⟨rfl, R⟩
 case inl =>
  subst z1
  obtain ⟨L', g', cp', rfl, hP1⟩ := HBn.out.2.2 rfl
  obtain ⟨k, hk0, hKok, hkh⟩ := bundle_good G.out.2.1 G.out.2.2.1 G.out.2.2.2.2.1 G.out.1
  have hdo := does_of G.out.2.2.2.1 G.out.2.2.2.2.1 G.out.1 hk0
  generalize (P.bundle r).2.1 = lb at hP1 hk0 hdo
  generalize (P.bundle r).2.2 = ib at hP1 hk0 hdo
  obtain ⟨m, hm, rfl⟩ : ∃ m, L'[ib]? = some m ∧ m.k = k := by
   rw [← hP1.pl.says, List.getElem?_map] at hk0
   cases hL' : L'[ib]? with
   | none => rw [hL'] at hk0; cases hk0
   | some m => rw [hL'] at hk0; exact ⟨m, rfl, Option.some.inj hk0⟩
  have hbW1 : Below B w W1 := G.out.2.2.2.2.2.2.2.2.1.trans HBn.out.1
  have hk1 : W1.heap[w.heap.size]? = some (.cells #[.int .i64 r.k, .int .i64 r.p, .int .i64 r.n, .int .i64 r.y, .int .i64 r.h.F, .int .i64 r.h.Q, .int .i64 r.h.T, .int .i64 r.h.L, .int .i64 r.h.B, .int .i64 r.h.K, .int .i64 r.id, .slice da r.d.length dc, .slice ca r.c.length cc] 40 (0, 0)) := (HBn.out.2.1 w.heap.size (Array.getElem?_eq_some_iff.1 G.out.2.2.2.2.2.2.1).1 (by have := G.out.2.2.2.2.2.1.lt; omega) (fun o e => by have := (G.out.2.2.2.2.2.1.pl.own.lt w.heap.size (by rw [e]; rfl)).2; omega)).trans G.out.2.2.2.2.2.2.1
  have J := Shut.mk (And.intro hP1 (And.intro hm (And.intro hKok (And.intro hkh (And.intro hbW1 hk1)))))
  obtain ⟨a0, a1, a2, a3, a4, a5, a6, a7, a8, a9, a10, a11, a12⟩ := rcBox hk1
  clear HBn hk0
  obtain ⟨post, hA, hN, hf, hgr, hg, hBs, hDo⟩ := meth hP1 hm
  have hde : m.k.does P.me r = m.k.keep (r.id, r.d) := by unfold Kp.does; rw [if_pos HK.out]
  rw [hde] at hdo
  have HR := Shut.mk hdo
  have hS := keepSymbol_any B m ⟨r.id, da, dc, r.d⟩ g' (ib * 16) (kpCells (L'.take ib)) post W1 hA hN hf hgr hg ⟨(G.out.2.2.2.2.2.2.2.2.2.2.2.1 W1 hbW1).1, by have := G.out.2.2.2.2.2.2.2.2.2.2.1.1; show r.d.length ≤ maxLen; unfold maxLen; omega⟩ G.out.2.2.2.2.2.2.2.2.2.2.1.1
  have HD := Shut.mk hDo
  clear hP1 hm hKok hkh hbW1 hk1 hA hN hf hgr hg hBs hDo hdo hde
  go_wp2_with fail
  refine hS.mono ?_
  rintro e W5 ⟨rfl, HS⟩
  clear hS a0 a1 a2 a3 a4 a5 a6 a7 a8 a9 a10 a11 a12
  go_wp2
  go_ret
  rw [HR.out]
  exact ⟨rfl, ⟨(HD.out _ _ _ HS.out).up J.out.2.2.2.2.1⟩⟩

theorem entersDeliver3 : ∀ args w, (callFunc 72 args).run Tryz.prog w = .ok (.enter 72 args) w := enters_of Tryz.func72 (by kernel_rfl) rfl

set_option maxHeartbeats 8000000 in
set_option maxRecDepth 8000 in
theorem do_deliver (B gp : Nat) (P : Pl) (L : List MKp) (p : Option Addr) (cp : Nat) (r : Rc) (da : Option Addr) (dc : Nat) (ca : Option Addr) (cc : Nat) (w : World) (hP : PlAt w B gp P.me P.tm P.sq P.kp L p cp) (hOk : PlOk P) (hr : r.code = 0) (hi : r.ints) (hsz : r.d.length ≤ 65536 ∧ r.c.length ≤ 65536) (hU : ∀ u, Below B w u → Lies u da (bs r.d) ∧ Lies u ca (bs r.c) ∧ Laid u) (hkd : r.k = 3) :
  Calls Tryz.prog 36 #[.pointer (some ⟨gp, 0, none⟩), rcV r da dc ca cc] w fun e w' => e = .returned (.int .i64 (P.does r).1) ∧ Shut (DoR B gp w (P.does r).1 (P.does r).2 w') := by
 have hBw : B ≤ w.heap.size := by have := hP.lo; have := hP.lt; omega
 obtain ⟨W, hW⟩ : ∃ W, w.alloc (.cells #[.int .i64 r.k, .int .i64 r.p, .int .i64 r.n, .int .i64 r.y, .int .i64 r.h.F, .int .i64 r.h.Q, .int .i64 r.h.T, .int .i64 r.h.L, .int .i64 r.h.B, .int .i64 r.h.K, .int .i64 r.id, .slice da r.d.length dc, .slice ca r.c.length cc] 40) = W := ⟨_, rfl⟩
 have hb : Below w.heap.size w W := by rw [← hW]; exact (Below.refl _ _).alloc (Nat.le_refl _) _
 have hk : W.heap[w.heap.size]? = some (.cells #[.int .i64 r.k, .int .i64 r.p, .int .i64 r.n, .int .i64 r.y, .int .i64 r.h.F, .int .i64 r.h.Q, .int .i64 r.h.T, .int .i64 r.h.L, .int .i64 r.h.B, .int .i64 r.h.K, .int .i64 r.id, .slice da r.d.length dc, .slice ca r.c.length cc] 40 (0, 0)) := by rw [← hW, heap_alloc_eq, if_pos rfl]
 have hPW := hP.below hb
 have hbB : Below B w W := hb.mono hBw
 have HW := Shut.mk hW
 have HK := Shut.mk hkd
 obtain ⟨a0, a1, a2, a3, a4, a5, a6, a7, a8, a9, a10, a11, a12⟩ := rcBox hk
 have e1 : (r.k == 1) = false := by rw [hkd]; rfl
 have e8 : (r.k == 8) = false := by rw [hkd]; rfl
 have e2 : (r.k == 2) = false := by rw [hkd]; rfl
 have e3 : (r.k == 3) = true := by rw [hkd]; rfl
 have e4 : (r.k == 4) = false := by rw [hkd]; rfl
 have e5 : (r.k == 5) = false := by rw [hkd]; rfl
 have e6 : (r.k == 6) = false := by rw [hkd]; rfl
 have k1 : r.k ≠ 1 := by rw [hkd]; decide
 have k8 : r.k ≠ 8 := by rw [hkd]; decide
 have hBn := bundleOf_any B gp P L p cp r da dc ca cc W hPW hOk.few
 simp only [rcV] at hBn
 obtain ⟨z, hz⟩ : ∃ z, (P.bundle r).1 = z := ⟨_, rfl⟩
 rw [hz] at hBn
 have G := Shut.mk (And.intro hz (And.intro hOk (And.intro hr (And.intro k1 (And.intro k8 (And.intro hP (And.intro hk (And.intro hb (And.intro hbB (And.intro hi (And.intro hsz (And.intro hU hPW))))))))))))
 clear hW hk hP hPW hbB hi hsz hU hkd hz hOk hr k1 k8 hb hBw
 unfold rcV
 go_enter Tryz.func36, Tryz.ntmps36
 go_upto_region 1 with fail
 rw [HW.out]
 clear HW
 go_wp2_with fail
 refine hBn.mono ?_
 rintro e W1 ⟨a, rfl, HBn⟩
 clear hBn a0 a1 a2 a3 a4 a5 a6 a7 a8 a9 a10 a11 a12
 rcases eqDec z 0 with ⟨z1, z2, z3, z4⟩ | ⟨z1, z2, z3, z4⟩
 case inr =>
  have HR := Shut.mk (show P.does r = (z, P) from by unfold Pl.does; rw [if_neg G.out.2.2.2.1, if_neg G.out.2.2.2.2.1, if_pos (by rw [G.out.1]; exact z1), G.out.1])
  have R : Shut (DoR B gp w z P W1) := ⟨G.out.2.2.2.2.2.2.2.2.1.trans HBn.out.1, fun e => absurd e z1⟩
  clear z1
  go_wp2
  go_ret
  rw [HR.out]
  exact ⟨rfl, R⟩
 case inl =>
  subst z1
  obtain ⟨L', g', cp', rfl, hP1⟩ := HBn.out.2.2 rfl
  obtain ⟨k, hk0, hKok, hkh⟩ := bundle_good G.out.2.1 G.out.2.2.1 G.out.2.2.2.2.1 G.out.1
  have hdo := does_of G.out.2.2.2.1 G.out.2.2.2.2.1 G.out.1 hk0
  generalize (P.bundle r).2.1 = lb at hP1 hk0 hdo
  generalize (P.bundle r).2.2 = ib at hP1 hk0 hdo
  obtain ⟨m, hm, rfl⟩ : ∃ m, L'[ib]? = some m ∧ m.k = k := by
   rw [← hP1.pl.says, List.getElem?_map] at hk0
   cases hL' : L'[ib]? with
   | none => rw [hL'] at hk0; cases hk0
   | some m => rw [hL'] at hk0; exact ⟨m, rfl, Option.some.inj hk0⟩
  have hbW1 : Below B w W1 := G.out.2.2.2.2.2.2.2.2.1.trans HBn.out.1
  have hk1 : W1.heap[w.heap.size]? = some (.cells #[.int .i64 r.k, .int .i64 r.p, .int .i64 r.n, .int .i64 r.y, .int .i64 r.h.F, .int .i64 r.h.Q, .int .i64 r.h.T, .int .i64 r.h.L, .int .i64 r.h.B, .int .i64 r.h.K, .int .i64 r.id, .slice da r.d.length dc, .slice ca r.c.length cc] 40 (0, 0)) := (HBn.out.2.1 w.heap.size (Array.getElem?_eq_some_iff.1 G.out.2.2.2.2.2.2.1).1 (by have := G.out.2.2.2.2.2.1.lt; omega) (fun o e => by have := (G.out.2.2.2.2.2.1.pl.own.lt w.heap.size (by rw [e]; rfl)).2; omega)).trans G.out.2.2.2.2.2.2.1
  have J := Shut.mk (And.intro hP1 (And.intro hm (And.intro hKok (And.intro hkh (And.intro hbW1 hk1)))))
  obtain ⟨a0, a1, a2, a3, a4, a5, a6, a7, a8, a9, a10, a11, a12⟩ := rcBox hk1
  clear HBn hk0
  have hPd : PlAt W1.drew B gp P.me P.tm P.sq lb L' (some ⟨g', 0, none⟩) cp' := hP1.below ((Below.refl _ _).drew)
  obtain ⟨post, hA, hN, hf, hgr, hg, hBs, hDo⟩ := meth hPd hm
  have hde : m.k.does P.me r = m.k.deliver P.me r.c := by unfold Kp.does; rw [if_neg (by rw [HK.out]; decide), if_pos HK.out]
  rw [hde] at hdo
  have HR := Shut.mk hdo
  have hUU := G.out.2.2.2.2.2.2.2.2.2.2.2.1 W1.drew hbW1.drew
  have hii := G.out.2.2.2.2.2.2.2.2.2.1
  have hS := deliver_any B m P.me r.c ca cc g' (ib * 16) (kpCells (L'.take ib)) post W1.drew hA hN hf hgr hg hUU.2.1 (by rw [hkh]; exact ⟨hii.2.2.2.2.1.2.2.2.2.1, hii.2.2.2.2.1.2.2.2.2.2⟩) hUU.2.2
  have hS' : Calls Tryz.prog 72 #[.pointer (some ⟨g', ib * 16, none⟩), .int .i64 P.me, .slice ca r.c.length cc] W1.drew fun e w' => ∃ x, e = .returned x ∧ (x = .int .i64 (m.k.deliver P.me r.c).1 ∧ Shut (DoR B gp W1.drew (m.k.deliver P.me r.c).1 ⟨P.me, lb.set ib (m.k.deliver P.me r.c).2, P.tm, P.sq⟩ w')) := by
   refine hS.mono ?_
   rintro e w' ⟨rfl, HH⟩
   exact ⟨_, rfl, rfl, ⟨hDo _ _ _ HH.out⟩⟩
  obtain ⟨d0, _, _, _⟩ := plBox hPd.box
  have hk1d : W1.drew.cell? ⟨w.heap.size, 12, none⟩ = some (.slice ca r.c.length cc) := (rcBox hk1).2.2.2.2.2.2.2.2.2.2.2.2
  have HB1 := Shut.mk hbW1
  clear hP1 hm hKok hkh hbW1 hk1 hA hN hf hgr hg hBs hDo hdo hde hS hPd hUU hii
  go_upto_region 13 with fail
  go_region_law (refine step_call3 entersDeliver3 rfl (.tmp 39) (.tmp 43) (.tmp 45) 128 3 35 rfl _ _ _ rfl rfl rfl hS' ?_; rintro _ W5 ⟨rfl, HS⟩)
  all_goals
   clear a0 a1 a2 a3 a4 a5 a6 a7 a8 a9 a10 a11 a12 d0 hk1d
   go_wp2
   go_ret
   rw [HR.out]
   exact ⟨rfl, ⟨HS.out.up HB1.out.drew⟩⟩

theorem entersGive3 : ∀ args w, (callFunc 74 args).run Tryz.prog w = .ok (.enter 74 args) w := enters_of Tryz.func74 (by kernel_rfl) rfl

set_option maxHeartbeats 8000000 in
set_option maxRecDepth 8000 in
theorem do_give (B gp : Nat) (P : Pl) (L : List MKp) (p : Option Addr) (cp : Nat) (r : Rc) (da : Option Addr) (dc : Nat) (ca : Option Addr) (cc : Nat) (w : World) (hP : PlAt w B gp P.me P.tm P.sq P.kp L p cp) (hOk : PlOk P) (hr : r.code = 0) (hi : r.ints) (hsz : r.d.length ≤ 65536 ∧ r.c.length ≤ 65536) (hU : ∀ u, Below B w u → Lies u da (bs r.d) ∧ Lies u ca (bs r.c) ∧ Laid u) (hkd : r.k = 4) :
  Calls Tryz.prog 36 #[.pointer (some ⟨gp, 0, none⟩), rcV r da dc ca cc] w fun e w' => e = .returned (.int .i64 (P.does r).1) ∧ Shut (DoR B gp w (P.does r).1 (P.does r).2 w') := by
 have hBw : B ≤ w.heap.size := by have := hP.lo; have := hP.lt; omega
 obtain ⟨W, hW⟩ : ∃ W, w.alloc (.cells #[.int .i64 r.k, .int .i64 r.p, .int .i64 r.n, .int .i64 r.y, .int .i64 r.h.F, .int .i64 r.h.Q, .int .i64 r.h.T, .int .i64 r.h.L, .int .i64 r.h.B, .int .i64 r.h.K, .int .i64 r.id, .slice da r.d.length dc, .slice ca r.c.length cc] 40) = W := ⟨_, rfl⟩
 have hb : Below w.heap.size w W := by rw [← hW]; exact (Below.refl _ _).alloc (Nat.le_refl _) _
 have hk : W.heap[w.heap.size]? = some (.cells #[.int .i64 r.k, .int .i64 r.p, .int .i64 r.n, .int .i64 r.y, .int .i64 r.h.F, .int .i64 r.h.Q, .int .i64 r.h.T, .int .i64 r.h.L, .int .i64 r.h.B, .int .i64 r.h.K, .int .i64 r.id, .slice da r.d.length dc, .slice ca r.c.length cc] 40 (0, 0)) := by rw [← hW, heap_alloc_eq, if_pos rfl]
 have hPW := hP.below hb
 have hbB : Below B w W := hb.mono hBw
 have HW := Shut.mk hW
 have HK := Shut.mk hkd
 obtain ⟨a0, a1, a2, a3, a4, a5, a6, a7, a8, a9, a10, a11, a12⟩ := rcBox hk
 have e1 : (r.k == 1) = false := by rw [hkd]; rfl
 have e8 : (r.k == 8) = false := by rw [hkd]; rfl
 have e2 : (r.k == 2) = false := by rw [hkd]; rfl
 have e3 : (r.k == 3) = false := by rw [hkd]; rfl
 have e4 : (r.k == 4) = true := by rw [hkd]; rfl
 have e5 : (r.k == 5) = false := by rw [hkd]; rfl
 have e6 : (r.k == 6) = false := by rw [hkd]; rfl
 have k1 : r.k ≠ 1 := by rw [hkd]; decide
 have k8 : r.k ≠ 8 := by rw [hkd]; decide
 have hBn := bundleOf_any B gp P L p cp r da dc ca cc W hPW hOk.few
 simp only [rcV] at hBn
 obtain ⟨z, hz⟩ : ∃ z, (P.bundle r).1 = z := ⟨_, rfl⟩
 rw [hz] at hBn
 have G := Shut.mk (And.intro hz (And.intro hOk (And.intro hr (And.intro k1 (And.intro k8 (And.intro hP (And.intro hk (And.intro hb (And.intro hbB (And.intro hi (And.intro hsz (And.intro hU hPW))))))))))))
 clear hW hk hP hPW hbB hi hsz hU hkd hz hOk hr k1 k8 hb hBw
 unfold rcV
 go_enter Tryz.func36, Tryz.ntmps36
 go_upto_region 1 with fail
 rw [HW.out]
 clear HW
 go_wp2_with fail
 refine hBn.mono ?_
 rintro e W1 ⟨a, rfl, HBn⟩
 clear hBn a0 a1 a2 a3 a4 a5 a6 a7 a8 a9 a10 a11 a12
 rcases eqDec z 0 with ⟨z1, z2, z3, z4⟩ | ⟨z1, z2, z3, z4⟩
 case inr =>
  have HR := Shut.mk (show P.does r = (z, P) from by unfold Pl.does; rw [if_neg G.out.2.2.2.1, if_neg G.out.2.2.2.2.1, if_pos (by rw [G.out.1]; exact z1), G.out.1])
  have R : Shut (DoR B gp w z P W1) := ⟨G.out.2.2.2.2.2.2.2.2.1.trans HBn.out.1, fun e => absurd e z1⟩
  clear z1
  go_wp2
  go_ret
  rw [HR.out]
  exact ⟨rfl, R⟩
 case inl =>
  subst z1
  obtain ⟨L', g', cp', rfl, hP1⟩ := HBn.out.2.2 rfl
  obtain ⟨k, hk0, hKok, hkh⟩ := bundle_good G.out.2.1 G.out.2.2.1 G.out.2.2.2.2.1 G.out.1
  have hdo := does_of G.out.2.2.2.1 G.out.2.2.2.2.1 G.out.1 hk0
  generalize (P.bundle r).2.1 = lb at hP1 hk0 hdo
  generalize (P.bundle r).2.2 = ib at hP1 hk0 hdo
  obtain ⟨m, hm, rfl⟩ : ∃ m, L'[ib]? = some m ∧ m.k = k := by
   rw [← hP1.pl.says, List.getElem?_map] at hk0
   cases hL' : L'[ib]? with
   | none => rw [hL'] at hk0; cases hk0
   | some m => rw [hL'] at hk0; exact ⟨m, rfl, Option.some.inj hk0⟩
  have hbW1 : Below B w W1 := G.out.2.2.2.2.2.2.2.2.1.trans HBn.out.1
  have hk1 : W1.heap[w.heap.size]? = some (.cells #[.int .i64 r.k, .int .i64 r.p, .int .i64 r.n, .int .i64 r.y, .int .i64 r.h.F, .int .i64 r.h.Q, .int .i64 r.h.T, .int .i64 r.h.L, .int .i64 r.h.B, .int .i64 r.h.K, .int .i64 r.id, .slice da r.d.length dc, .slice ca r.c.length cc] 40 (0, 0)) := (HBn.out.2.1 w.heap.size (Array.getElem?_eq_some_iff.1 G.out.2.2.2.2.2.2.1).1 (by have := G.out.2.2.2.2.2.1.lt; omega) (fun o e => by have := (G.out.2.2.2.2.2.1.pl.own.lt w.heap.size (by rw [e]; rfl)).2; omega)).trans G.out.2.2.2.2.2.2.1
  have J := Shut.mk (And.intro hP1 (And.intro hm (And.intro hKok (And.intro hkh (And.intro hbW1 hk1)))))
  obtain ⟨a0, a1, a2, a3, a4, a5, a6, a7, a8, a9, a10, a11, a12⟩ := rcBox hk1
  clear HBn hk0
  have hat := meth hP1 hm
  obtain ⟨post0, hA0, _⟩ := hat
  have c0 : W1.cell? ⟨g', ib * 16, none⟩ = some (.int .i64 m.k.h.F) := hA0.cell 0 _ rfl
  have c1 : W1.cell? ⟨g', ib * 16 + 1, none⟩ = some (.int .i64 m.k.h.Q) := hA0.cell 1 _ rfl
  have c2 : W1.cell? ⟨g', ib * 16 + 2, none⟩ = some (.int .i64 m.k.h.T) := hA0.cell 2 _ rfl
  have c3 : W1.cell? ⟨g', ib * 16 + 3, none⟩ = some (.int .i64 m.k.h.L) := hA0.cell 3 _ rfl
  have c4 : W1.cell? ⟨g', ib * 16 + 4, none⟩ = some (.int .i64 m.k.h.B) := hA0.cell 4 _ rfl
  have c5 : W1.cell? ⟨g', ib * 16 + 5, none⟩ = some (.int .i64 m.k.h.K) := hA0.cell 5 _ rfl
  have c6 : W1.cell? ⟨g', ib * 16 + 6, none⟩ = some (.bool m.k.own) := hA0.cell 6 _ rfl
  have c7 : W1.cell? ⟨g', ib * 16 + 7, none⟩ = some (.slice m.ca m.k.c.length m.cc) := hA0.cell 7 _ rfl
  have c8 : W1.cell? ⟨g', ib * 16 + 8, none⟩ = some (.slice m.ya m.ys.length m.yc) := hA0.cell 8 _ rfl
  have c9 : W1.cell? ⟨g', ib * 16 + 9, none⟩ = some (.int .i64 m.k.sh) := hA0.cell 9 _ rfl
  have c10 : W1.cell? ⟨g', ib * 16 + 10, none⟩ = some (.int .i64 m.k.gv) := hA0.cell 10 _ rfl
  have c11 : W1.cell? ⟨g', ib * 16 + 11, none⟩ = some (.int .i64 m.k.tw) := hA0.cell 11 _ rfl
  have c12 : W1.cell? ⟨g', ib * 16 + 12, none⟩ = some (.int .i64 m.k.tr) := hA0.cell 12 _ rfl
  have c13 : W1.cell? ⟨g', ib * 16 + 13, none⟩ = some (.slice m.ta m.k.tk.length m.tc) := hA0.cell 13 _ rfl
  have c14 : W1.cell? ⟨g', ib * 16 + 14, none⟩ = some (.bool m.k.dl) := hA0.cell 14 _ rfl
  have c15 : W1.cell? ⟨g', ib * 16 + 15, none⟩ = some (.bool m.k.pg) := hA0.cell 15 _ rfl
  have hD := isDone_any m W1
  simp only [MKp.val] at hD
  clear hP1 hm hKok hkh hk1 hbW1
  go_wp2_with fail
  refine hD.mono ?_
  rintro e W2 ⟨rfl, hb2⟩
  have hP2 := J.out.1.below hb2
  have hk2 := blkB J.out.2.2.2.2.2 hb2
  have hbW2 : Below B w W2 := J.out.2.2.2.2.1.trans (hb2.mono (by have := J.out.1.lo; have := J.out.1.lt; omega))
  have Q := Shut.mk (And.intro hP2 (And.intro hk2 hbW2))
  clear hD hb2 hA0 c0 c1 c2 c3 c4 c5 c6 c7 c8 c9 c10 c11 c12 c13 c14 c15 a0 a1 a2 a3 a4 a5 a6 a7 a8 a9 a10 a11 a12
  obtain ⟨a0, a1, a2, a3, a4, a5, a6, a7, a8, a9, a10, a11, a12⟩ := rcBox hk2
  have hOkk := J.out.2.2.1
  have hsh := (shares_zero.1 hOkk.shares).1
  by_cases pd : m.k.done = true
  case pos =>
   have HR := Shut.mk (hdo.trans (show _ = ((7 : Int), (⟨P.me, lb.set ib m.k, P.tm, P.sq⟩ : Pl)) from by
    have : m.k.does P.me r = (7, m.k) := by unfold Kp.does; rw [if_neg (by rw [HK.out]; decide), if_neg (by rw [HK.out]; decide), if_pos pd]
    rw [this]))
   rw [pd]
   have R : Shut (DoR B gp w 7 ⟨P.me, lb.set ib m.k, P.tm, P.sq⟩ W2) := ⟨hbW2, fun e => absurd e (by decide)⟩
   clear pd hdo hP2 hk2
   go_wp2
   go_ret
   rw [HR.out]
   exact ⟨rfl, R⟩
  case neg =>
   have pd' : m.k.done = false := by simpa using pd
   rw [pd']
   have hPd : PlAt W2.drew B gp P.me P.tm P.sq lb L' (some ⟨g', 0, none⟩) cp' := hP2.below ((Below.refl _ _).drew)
   obtain ⟨post, hA, hN, hf, hgr, hg, hBs, hDo⟩ := meth hPd J.out.2.1
   have hde : m.k.does P.me r = m.k.give P.me r.p r.n r.y := by unfold Kp.does; rw [if_neg (by rw [HK.out]; decide), if_neg (by rw [HK.out]; decide), if_neg pd, if_pos HK.out]
   rw [hde] at hdo
   have HR := Shut.mk hdo
   have hS := give_any m P.me r da dc ca cc g' (ib * 16) (kpCells (L'.take ib)) post W2.drew hA (by have := (rc_facts G.out.2.2.1).2.1.2.2; unfold I64; omega)
   simp only [rcV] at hS
   have hS' : Calls Tryz.prog 74 #[.pointer (some ⟨g', ib * 16, none⟩), .int .i64 P.me, .agg #[.int .i64 r.k, .int .i64 r.p, .int .i64 r.n, .int .i64 r.y, .int .i64 r.h.F, .int .i64 r.h.Q, .int .i64 r.h.T, .int .i64 r.h.L, .int .i64 r.h.B, .int .i64 r.h.K, .int .i64 r.id, .slice da r.d.length dc, .slice ca r.c.length cc]] W2.drew fun e w' => ∃ x, e = .returned x ∧ (x = .int .i64 (m.k.give P.me r.p r.n r.y).1 ∧ Shut (DoR B gp W2.drew (m.k.give P.me r.p r.n r.y).1 ⟨P.me, lb.set ib (m.k.give P.me r.p r.n r.y).2, P.tm, P.sq⟩ w')) := by
    refine hS.mono ?_
    rintro e w' ⟨rfl, HH⟩
    exact ⟨_, rfl, rfl, ⟨hDo _ _ _ (HH.out.grows hN hf hgr hg hBs (by unfold Kp.give; repeat' (first | rfl | split)) (by unfold Kp.give; repeat' (first | rfl | split)) (by unfold Kp.give; repeat' (first | rfl | split)))⟩⟩
   obtain ⟨d0, _, _, _⟩ := plBox hPd.box
   obtain ⟨a0, a1, a2, a3, a4, a5, a6, a7, a8, a9, a10, a11, a12⟩ := rcBox (show W2.drew.heap[w.heap.size]? = _ from hk2)
   clear pd pd' hdo hde hP2 hk2 hbW2 hA hN hf hgr hg hBs hDo hOkk hsh hS hPd
   go_upto_region 18 with fail
   go_region_law (refine step_call3 entersGive3 rfl (.tmp 55) (.tmp 59) (.tmp 60) 128 3 40 rfl _ _ _ rfl rfl rfl hS' ?_; rintro _ W5 ⟨rfl, HS⟩)
   all_goals
    clear a0 a1 a2 a3 a4 a5 a6 a7 a8 a9 a10 a11 a12 d0
    go_wp2
    go_ret
    rw [HR.out]
    exact ⟨rfl, ⟨HS.out.up Q.out.2.2.drew⟩⟩

set_option maxHeartbeats 8000000 in
set_option maxRecDepth 8000 in
theorem do_given (B gp : Nat) (P : Pl) (L : List MKp) (p : Option Addr) (cp : Nat) (r : Rc) (da : Option Addr) (dc : Nat) (ca : Option Addr) (cc : Nat) (w : World) (hP : PlAt w B gp P.me P.tm P.sq P.kp L p cp) (hOk : PlOk P) (hr : r.code = 0) (hi : r.ints) (hsz : r.d.length ≤ 65536 ∧ r.c.length ≤ 65536) (hU : ∀ u, Below B w u → Lies u da (bs r.d) ∧ Lies u ca (bs r.c) ∧ Laid u) (hkd : r.k = 5) :
  Calls Tryz.prog 36 #[.pointer (some ⟨gp, 0, none⟩), rcV r da dc ca cc] w fun e w' => e = .returned (.int .i64 (P.does r).1) ∧ Shut (DoR B gp w (P.does r).1 (P.does r).2 w') := by
 have hBw : B ≤ w.heap.size := by have := hP.lo; have := hP.lt; omega
 obtain ⟨W, hW⟩ : ∃ W, w.alloc (.cells #[.int .i64 r.k, .int .i64 r.p, .int .i64 r.n, .int .i64 r.y, .int .i64 r.h.F, .int .i64 r.h.Q, .int .i64 r.h.T, .int .i64 r.h.L, .int .i64 r.h.B, .int .i64 r.h.K, .int .i64 r.id, .slice da r.d.length dc, .slice ca r.c.length cc] 40) = W := ⟨_, rfl⟩
 have hb : Below w.heap.size w W := by rw [← hW]; exact (Below.refl _ _).alloc (Nat.le_refl _) _
 have hk : W.heap[w.heap.size]? = some (.cells #[.int .i64 r.k, .int .i64 r.p, .int .i64 r.n, .int .i64 r.y, .int .i64 r.h.F, .int .i64 r.h.Q, .int .i64 r.h.T, .int .i64 r.h.L, .int .i64 r.h.B, .int .i64 r.h.K, .int .i64 r.id, .slice da r.d.length dc, .slice ca r.c.length cc] 40 (0, 0)) := by rw [← hW, heap_alloc_eq, if_pos rfl]
 have hPW := hP.below hb
 have hbB : Below B w W := hb.mono hBw
 have HW := Shut.mk hW
 have HK := Shut.mk hkd
 obtain ⟨a0, a1, a2, a3, a4, a5, a6, a7, a8, a9, a10, a11, a12⟩ := rcBox hk
 have e1 : (r.k == 1) = false := by rw [hkd]; rfl
 have e8 : (r.k == 8) = false := by rw [hkd]; rfl
 have e2 : (r.k == 2) = false := by rw [hkd]; rfl
 have e3 : (r.k == 3) = false := by rw [hkd]; rfl
 have e4 : (r.k == 4) = false := by rw [hkd]; rfl
 have e5 : (r.k == 5) = true := by rw [hkd]; rfl
 have e6 : (r.k == 6) = false := by rw [hkd]; rfl
 have k1 : r.k ≠ 1 := by rw [hkd]; decide
 have k8 : r.k ≠ 8 := by rw [hkd]; decide
 have hBn := bundleOf_any B gp P L p cp r da dc ca cc W hPW hOk.few
 simp only [rcV] at hBn
 obtain ⟨z, hz⟩ : ∃ z, (P.bundle r).1 = z := ⟨_, rfl⟩
 rw [hz] at hBn
 have G := Shut.mk (And.intro hz (And.intro hOk (And.intro hr (And.intro k1 (And.intro k8 (And.intro hP (And.intro hk (And.intro hb (And.intro hbB (And.intro hi (And.intro hsz (And.intro hU hPW))))))))))))
 clear hW hk hP hPW hbB hi hsz hU hkd hz hOk hr k1 k8 hb hBw
 unfold rcV
 go_enter Tryz.func36, Tryz.ntmps36
 go_upto_region 1 with fail
 rw [HW.out]
 clear HW
 go_wp2_with fail
 refine hBn.mono ?_
 rintro e W1 ⟨a, rfl, HBn⟩
 clear hBn a0 a1 a2 a3 a4 a5 a6 a7 a8 a9 a10 a11 a12
 rcases eqDec z 0 with ⟨z1, z2, z3, z4⟩ | ⟨z1, z2, z3, z4⟩
 case inr =>
  have HR := Shut.mk (show P.does r = (z, P) from by unfold Pl.does; rw [if_neg G.out.2.2.2.1, if_neg G.out.2.2.2.2.1, if_pos (by rw [G.out.1]; exact z1), G.out.1])
  have R : Shut (DoR B gp w z P W1) := ⟨G.out.2.2.2.2.2.2.2.2.1.trans HBn.out.1, fun e => absurd e z1⟩
  clear z1
  go_wp2
  go_ret
  rw [HR.out]
  exact ⟨rfl, R⟩
 case inl =>
  subst z1
  obtain ⟨L', g', cp', rfl, hP1⟩ := HBn.out.2.2 rfl
  obtain ⟨k, hk0, hKok, hkh⟩ := bundle_good G.out.2.1 G.out.2.2.1 G.out.2.2.2.2.1 G.out.1
  have hdo := does_of G.out.2.2.2.1 G.out.2.2.2.2.1 G.out.1 hk0
  generalize (P.bundle r).2.1 = lb at hP1 hk0 hdo
  generalize (P.bundle r).2.2 = ib at hP1 hk0 hdo
  obtain ⟨m, hm, rfl⟩ : ∃ m, L'[ib]? = some m ∧ m.k = k := by
   rw [← hP1.pl.says, List.getElem?_map] at hk0
   cases hL' : L'[ib]? with
   | none => rw [hL'] at hk0; cases hk0
   | some m => rw [hL'] at hk0; exact ⟨m, rfl, Option.some.inj hk0⟩
  have hbW1 : Below B w W1 := G.out.2.2.2.2.2.2.2.2.1.trans HBn.out.1
  have hk1 : W1.heap[w.heap.size]? = some (.cells #[.int .i64 r.k, .int .i64 r.p, .int .i64 r.n, .int .i64 r.y, .int .i64 r.h.F, .int .i64 r.h.Q, .int .i64 r.h.T, .int .i64 r.h.L, .int .i64 r.h.B, .int .i64 r.h.K, .int .i64 r.id, .slice da r.d.length dc, .slice ca r.c.length cc] 40 (0, 0)) := (HBn.out.2.1 w.heap.size (Array.getElem?_eq_some_iff.1 G.out.2.2.2.2.2.2.1).1 (by have := G.out.2.2.2.2.2.1.lt; omega) (fun o e => by have := (G.out.2.2.2.2.2.1.pl.own.lt w.heap.size (by rw [e]; rfl)).2; omega)).trans G.out.2.2.2.2.2.2.1
  have J := Shut.mk (And.intro hP1 (And.intro hm (And.intro hKok (And.intro hkh (And.intro hbW1 hk1)))))
  obtain ⟨a0, a1, a2, a3, a4, a5, a6, a7, a8, a9, a10, a11, a12⟩ := rcBox hk1
  clear HBn hk0
  have hat := meth hP1 hm
  obtain ⟨post0, hA0, _⟩ := hat
  have c0 : W1.cell? ⟨g', ib * 16, none⟩ = some (.int .i64 m.k.h.F) := hA0.cell 0 _ rfl
  have c1 : W1.cell? ⟨g', ib * 16 + 1, none⟩ = some (.int .i64 m.k.h.Q) := hA0.cell 1 _ rfl
  have c2 : W1.cell? ⟨g', ib * 16 + 2, none⟩ = some (.int .i64 m.k.h.T) := hA0.cell 2 _ rfl
  have c3 : W1.cell? ⟨g', ib * 16 + 3, none⟩ = some (.int .i64 m.k.h.L) := hA0.cell 3 _ rfl
  have c4 : W1.cell? ⟨g', ib * 16 + 4, none⟩ = some (.int .i64 m.k.h.B) := hA0.cell 4 _ rfl
  have c5 : W1.cell? ⟨g', ib * 16 + 5, none⟩ = some (.int .i64 m.k.h.K) := hA0.cell 5 _ rfl
  have c6 : W1.cell? ⟨g', ib * 16 + 6, none⟩ = some (.bool m.k.own) := hA0.cell 6 _ rfl
  have c7 : W1.cell? ⟨g', ib * 16 + 7, none⟩ = some (.slice m.ca m.k.c.length m.cc) := hA0.cell 7 _ rfl
  have c8 : W1.cell? ⟨g', ib * 16 + 8, none⟩ = some (.slice m.ya m.ys.length m.yc) := hA0.cell 8 _ rfl
  have c9 : W1.cell? ⟨g', ib * 16 + 9, none⟩ = some (.int .i64 m.k.sh) := hA0.cell 9 _ rfl
  have c10 : W1.cell? ⟨g', ib * 16 + 10, none⟩ = some (.int .i64 m.k.gv) := hA0.cell 10 _ rfl
  have c11 : W1.cell? ⟨g', ib * 16 + 11, none⟩ = some (.int .i64 m.k.tw) := hA0.cell 11 _ rfl
  have c12 : W1.cell? ⟨g', ib * 16 + 12, none⟩ = some (.int .i64 m.k.tr) := hA0.cell 12 _ rfl
  have c13 : W1.cell? ⟨g', ib * 16 + 13, none⟩ = some (.slice m.ta m.k.tk.length m.tc) := hA0.cell 13 _ rfl
  have c14 : W1.cell? ⟨g', ib * 16 + 14, none⟩ = some (.bool m.k.dl) := hA0.cell 14 _ rfl
  have c15 : W1.cell? ⟨g', ib * 16 + 15, none⟩ = some (.bool m.k.pg) := hA0.cell 15 _ rfl
  have hD := isDone_any m W1
  simp only [MKp.val] at hD
  clear hP1 hm hKok hkh hk1 hbW1
  go_wp2_with fail
  refine hD.mono ?_
  rintro e W2 ⟨rfl, hb2⟩
  have hP2 := J.out.1.below hb2
  have hk2 := blkB J.out.2.2.2.2.2 hb2
  have hbW2 : Below B w W2 := J.out.2.2.2.2.1.trans (hb2.mono (by have := J.out.1.lo; have := J.out.1.lt; omega))
  have Q := Shut.mk (And.intro hP2 (And.intro hk2 hbW2))
  clear hD hb2 hA0 c0 c1 c2 c3 c4 c5 c6 c7 c8 c9 c10 c11 c12 c13 c14 c15 a0 a1 a2 a3 a4 a5 a6 a7 a8 a9 a10 a11 a12
  obtain ⟨a0, a1, a2, a3, a4, a5, a6, a7, a8, a9, a10, a11, a12⟩ := rcBox hk2
  have hOkk := J.out.2.2.1
  have hsh := (shares_zero.1 hOkk.shares).1
  by_cases pd : m.k.done = true
  case pos =>
   have HR := Shut.mk (hdo.trans (show _ = ((7 : Int), (⟨P.me, lb.set ib m.k, P.tm, P.sq⟩ : Pl)) from by
    have : m.k.does P.me r = (7, m.k) := by unfold Kp.does; rw [if_neg (by rw [HK.out]; decide), if_neg (by rw [HK.out]; decide), if_pos pd]
    rw [this]))
   rw [pd]
   have R : Shut (DoR B gp w 7 ⟨P.me, lb.set ib m.k, P.tm, P.sq⟩ W2) := ⟨hbW2, fun e => absurd e (by decide)⟩
   clear pd hdo hP2 hk2
   go_wp2
   go_ret
   rw [HR.out]
   exact ⟨rfl, R⟩
  case neg =>
   have pd' : m.k.done = false := by simpa using pd
   rw [pd']
   obtain ⟨post, hA, hN, hf, hgr, hg, hBs, hDo⟩ := meth hP2 J.out.2.1
   have hde : m.k.does P.me r = m.k.given r.y := by unfold Kp.does; rw [if_neg (by rw [HK.out]; decide), if_neg (by rw [HK.out]; decide), if_neg pd, if_neg (by rw [HK.out]; decide), if_pos HK.out]
   rw [hde] at hdo
   have HR := Shut.mk hdo
   have hS := given_any m r.y g' (ib * 16) (kpCells (L'.take ib)) post W2 hA
   have HD : Shut (∀ w', DoesR W2 g' (ib * 16) (kpCells (L'.take ib)) post (m.k.given r.y).1 { m with k := (m.k.given r.y).2 } w' → DoR B gp W2 (m.k.given r.y).1 ⟨P.me, lb.set ib (m.k.given r.y).2, P.tm, P.sq⟩ w') := ⟨fun w' h => hDo _ _ _ (h.grows hN hf hgr hg hBs (by unfold Kp.given; split <;> rfl) (by unfold Kp.given; split <;> rfl) (by unfold Kp.given; split <;> rfl))⟩
   clear pd pd' hdo hde hP2 hk2 hbW2 hA hN hf hgr hg hBs hDo hOkk hsh
   go_wp2_with fail
   refine hS.mono ?_
   rintro e W5 ⟨rfl, HS⟩
   clear hS a0 a1 a2 a3 a4 a5 a6 a7 a8 a9 a10 a11 a12
   go_wp2
   go_ret
   rw [HR.out]
   exact ⟨rfl, ⟨(HD.out _ HS.out).up Q.out.2.2⟩⟩

end Go.Proofs.YtakkajjoeimkdaaGreatDoor
