import Derived.Test.YtakkajjoeimkdaaGreatDoorPart24
import Derived.Test.YtakkajjoeimkdaaGreatDoorPart17
import Derived.Test.YtakkajjoeimkdaaGreatDoorPart8
import Derived.Deep.RegionHeld3
import Derived.Test.YtakkajjoeimkdaaGreatDoorPart23
import Derived.Test.YtakkajjoeimkdaaGreatDoorPart16
import Derived.Test.YtakkajjoeimkdaaGreatDoorPart11
namespace Go.Proofs.YtakkajjoeimkdaaGreatDoor
open Go.RowKit
set_option linter.unusedVariables false
set_option linter.unusedSimpArgs false
attribute [local go_sem ↓] Go.wp_at_zero Go.wp_at_succ

def BunR (B gp : Nat) (w : World) (P : Pl) (p : Option Addr) (z : Int) (l : List Kp) (i : Nat) (a : Option Addr) (w' : World) : Prop := Below B w w' ∧ (∀ k, k < w.heap.size → k ≠ gp → (∀ o, p ≠ some ⟨k, o, none⟩) → w'.heap[k]? = w.heap[k]?) ∧ (z = 0 → ∃ (L : List MKp) (g cp : Nat), a = some ⟨g, i * 16, none⟩ ∧ PlAt w' B gp P.me P.tm P.sq l L (some ⟨g, 0, none⟩) cp)

theorem findL_lt {l : List Kp} {f q : Int} {i : Nat} (h : findL l f q = some i) : i < l.length := by
 unfold findL at h
 rw [List.findIdx?_eq_some_iff_getElem] at h
 exact h.1

set_option maxHeartbeats 8000000 in
set_option maxRecDepth 8000 in
theorem bundleOf_any (B gp : Nat) (P : Pl) (L : List MKp) (p : Option Addr) (cp : Nat) (r : Rc) (da : Option Addr) (dc : Nat) (ca : Option Addr) (cc : Nat) (w : World) (hP : PlAt w B gp P.me P.tm P.sq P.kp L p cp) (hn : P.kp.length ≤ 12) :
  Calls Tryz.prog 70 #[.pointer (some ⟨gp, 0, none⟩), rcV r da dc ca cc] w fun e w' => ∃ a : Option Addr, e = .returned (.tuple #[.pointer a, .int .i64 (P.bundle r).1]) ∧ Shut (BunR B gp w P p (P.bundle r).1 (P.bundle r).2.1 (P.bundle r).2.2 a w') := by
 obtain ⟨me, l, tm, sq⟩ := P
 simp only at hP hn
 obtain ⟨n, hnl⟩ : ∃ n, l.length = n := ⟨_, rfl⟩
 rw [hnl] at hn
 have hBw : B ≤ w.heap.size := by have := hP.lo; have := hP.lt; omega
 obtain ⟨W, hW⟩ : ∃ W, w.alloc (.cells #[.int .i64 r.k, .int .i64 r.p, .int .i64 r.n, .int .i64 r.y, .int .i64 r.h.F, .int .i64 r.h.Q, .int .i64 r.h.T, .int .i64 r.h.L, .int .i64 r.h.B, .int .i64 r.h.K, .int .i64 r.id, .slice da r.d.length dc, .slice ca r.c.length cc] 40) = W := ⟨_, rfl⟩
 have hb : Below w.heap.size w W := by rw [← hW]; exact (Below.refl _ _).alloc (Nat.le_refl _) _
 have hk : W.heap[w.heap.size]? = some (.cells #[.int .i64 r.k, .int .i64 r.p, .int .i64 r.n, .int .i64 r.y, .int .i64 r.h.F, .int .i64 r.h.Q, .int .i64 r.h.T, .int .i64 r.h.L, .int .i64 r.h.B, .int .i64 r.h.K, .int .i64 r.id, .slice da r.d.length dc, .slice ca r.c.length cc] 40 (0, 0)) := by rw [← hW, heap_alloc_eq, if_pos rfl]
 have hPW := hP.below hb
 have hLn : L.length = n := by rw [← hnl, ← hP.pl.says, List.length_map]
 have HW := Shut.mk hW
 have HN := Shut.mk hnl
 have H := Shut.mk (And.intro hPW (And.intro hk (And.intro hb (And.intro hBw (And.intro hLn hP)))))
 have bad : ∀ (z : Int) (l' : List Kp) (i : Nat) (a : Option Addr) (u : World), z ≠ 0 → Below w.heap.size w u → Shut (BunR B gp w ⟨me, l, tm, sq⟩ p z l' i a u) := fun z l' i a u hz hu => ⟨hu.mono H.out.2.2.2.1, fun k hk _ _ => hu.block k hk, fun e => absurd e hz⟩
 have hFi : ∀ v : World, Below W.heap.size W v → Calls Tryz.prog 32 #[.agg #[.int .i64 me, .slice p n cp, .int .i64 tm, .int .i64 sq], .int .i64 r.h.F, .int .i64 r.h.Q] v fun e w' => ∃ x, e = .returned x ∧ (x = .int .i64 (findI l r.h.F r.h.Q) ∧ Below W.heap.size W w') := fun v hv => by
  have hown := ownB hPW.pl.own hv
  have hf := find_any me tm sq p cp L r.h.F r.h.Q v (by obtain ⟨_, _, e1, e2, _⟩ := own_gen hown; simp only [Value.slice.injEq] at e1; obtain ⟨rfl, _, _⟩ := e1; exact e2) (by rw [hLn]; unfold maxLen; omega)
  rw [hLn, hPW.pl.says] at hf
  refine hf.mono ?_
  rintro e w' ⟨rfl, h⟩
  exact ⟨_, rfl, rfl, hv.trans (h.mono hv.size)⟩
 have HFi := Shut.mk hFi
 obtain ⟨b0, b1, b2, b3⟩ := plBox (show W.drew.heap[gp]? = _ from hPW.box)
 rw [hnl] at b1
 obtain ⟨a0, a1, a2, a3, a4, a5, a6, a7, a8, a9, a10, a11, a12⟩ := rcBox (show W.drew.heap[w.heap.size]? = _ from hk)
 clear hW hk hP hPW hBw hnl hFi hLn
 have hbW := hb
 clear hb
 unfold rcV
 go_enter Tryz.func70, Tryz.ntmps70
 go_upto_region 1 with fail
 rw [HW.out]
 clear HW
 go_region_held3 (fun w' => w'.cell? ⟨gp, 0, none⟩ = some (.int .i64 me) ∧ w'.cell? ⟨gp, 1, none⟩ = some (.slice p n cp) ∧ w'.cell? ⟨gp, 2, none⟩ = some (.int .i64 tm) ∧ w'.cell? ⟨gp, 3, none⟩ = some (.int .i64 sq) ∧ w'.cell? ⟨w.heap.size, 4, none⟩ = some (.int .i64 r.h.F) ∧ w'.cell? ⟨w.heap.size, 5, none⟩ = some (.int .i64 r.h.Q)) (exact ⟨by with_reducible assumption, by with_reducible assumption, by with_reducible assumption, by with_reducible assumption, by with_reducible assumption, by with_reducible assumption⟩) ((go_at_call 32; refine (HFi.out _ ((Below.refl _ W).drew)).mono ?_; rintro _ W1 ⟨_, rfl, rfl, hb1⟩; have hq1 := plBox (H.out.1.below hb1).box; rw [HN.out] at hq1; obtain ⟨b0, b1, b2, b3⟩ := hq1; obtain ⟨a0, a1, a2, a3, a4, a5, a6, a7, a8, a9, a10, a11, a12⟩ := rcBox (blkB H.out.2.1 hb1)))
 all_goals
  have hbw := hbW.trans (hb1.mono hbW.size)
  have hP1 := H.out.1.below hb1
  have hk1 := blkB H.out.2.1 hb1
  have H1 := Shut.mk (And.intro hP1 (And.intro hk1 hbw))
  clear a0 a1 a2 a3 a4 a5 a6 a7 a8 a9 a10 a11 a12 b0 b1 b2 b3 hb1 hbW
  obtain ⟨b0, b1, b2, b3⟩ := plBox hP1.box
  rw [HN.out] at b1
  obtain ⟨a0, a1, a2, a3, a4, a5, a6, a7, a8, a9, a10, a11, a12⟩ := rcBox hk1
  clear hP1 hk1 HFi
  generalize hfi : findI l r.h.F r.h.Q = fi
  have HF := Shut.mk hfi
  clear hfi
  go_upto_region 2 with fail
  (try simp only [Act.put, List.setIfInBounds_toArray, List.set_cons_zero, List.set_cons_succ])
  go_cut [7] from 8 (fun s7 wd => s7 = .bool (decide (r.k = 3 ∨ r.k = 4 ∨ r.k = 5)) ∧ wd = W1)
  case first =>
   rcases eqDec r.k 3 with ⟨k1, k2, k3, k4⟩ | ⟨k1, k2, k3, k4⟩
   ·have e : decide (r.k = 3 ∨ r.k = 4 ∨ r.k = 5) = true := decide_eq_true (.inl k1)
    have E := Shut.mk e
    clear k1 e
    go_wp2
    go_meet
    exact ⟨by rw [E.out], rfl⟩
   ·rcases eqDec r.k 4 with ⟨j1, j2, j3, j4⟩ | ⟨j1, j2, j3, j4⟩
    ·have e : decide (r.k = 3 ∨ r.k = 4 ∨ r.k = 5) = true := decide_eq_true (.inr (.inl j1))
     have E := Shut.mk e
     clear k1 j1 e
     go_wp2
     go_meet
     exact ⟨by rw [E.out], rfl⟩
    ·have e : decide (r.k = 3 ∨ r.k = 4 ∨ r.k = 5) = (r.k == 5) := by
      rcases eqDec r.k 5 with ⟨m1, m2, _, _⟩ | ⟨m1, m2, _, _⟩
      ·rw [m2]; exact decide_eq_true (.inr (.inr m1))
      ·rw [m2]; exact decide_eq_false (by rintro (h | h | h) <;> contradiction)
     have E := Shut.mk e
     clear k1 j1 e
     go_wp2
     go_meet
     exact ⟨by rw [E.out], rfl⟩
  obtain ⟨rfl, rfl⟩ := hcut
  have hbw := H1.out.2.2
  cases hfl : findL l r.h.F r.h.Q with
  | none =>
   obtain rfl : fi = -1 := by rw [← HF.out]; unfold findI; rw [hfl]
   have HB0 := Shut.mk (show (Pl.bundle ⟨me, l, tm, sq⟩ r) = if r.k = 3 ∨ r.k = 4 ∨ r.k = 5 then (5, [], 0) else if r.h.L ≤ tm then (7, [], 0) else if r.h.F = me then (5, [], 0) else if 12 ≤ l.length then (2, [], 0) else (0, insK l (placeOf l r.h) (kp0 r.h), placeOf l r.h) from by unfold Pl.bundle; simp only [hfl])
   clear hfl
   by_cases c1 : r.k = 3 ∨ r.k = 4 ∨ r.k = 5
   ·have HR := Shut.mk (HB0.out.trans (if_pos c1))
    rw [decide_eq_true c1]
    clear c1
    go_wp2
    go_ret2
    rw [HR.out]
    exact ⟨none, rfl, bad _ _ _ _ _ (by show (5 : Int) ≠ 0; decide) hbw⟩
   ·have HB1 := Shut.mk (HB0.out.trans (if_neg c1))
    rw [decide_eq_false c1]
    clear c1
    go_upto_region 5 with fail
    by_cases c2 : r.h.L ≤ tm
    ·have HR := Shut.mk (HB1.out.trans (if_pos c2))
     go_region
     all_goals
      go_wp2
      go_ret2
      rw [HR.out]
      exact ⟨none, rfl, bad _ _ _ _ _ (by show (7 : Int) ≠ 0; decide) hbw.drew⟩
    ·have HB2 := Shut.mk (HB1.out.trans (if_neg c2))
     go_region
     all_goals go_upto_region 7 with fail
     all_goals go_region
     all_goals go_upto_region 11 with fail
     rcases eqDec r.h.F me with ⟨z1, z2, z3, z4⟩ | ⟨z1, z2, z3, z4⟩
     ·have HR := Shut.mk (HB2.out.trans (if_pos z1))
      clear z1
      go_region
      all_goals
       go_wp2
       go_ret2
       rw [HR.out]
       exact ⟨none, rfl, bad _ _ _ _ _ (by show (5 : Int) ≠ 0; decide) hbw.drew.drew.drew⟩
     ·have HB3 := Shut.mk (HB2.out.trans (if_neg z1))
      clear z1
      go_region
      all_goals go_upto_region 13 with fail
      by_cases c4 : 12 ≤ n
      ·have HR := Shut.mk (HB3.out.trans (if_pos (by rw [HN.out]; exact c4)))
       have l5 : (12 : Int) ≤ (n : Int) := by omega
       go_wp2
       go_ret2
       rw [HR.out]
       exact ⟨none, rfl, bad _ _ _ _ _ (by show (2 : Int) ≠ 0; decide) hbw.drew.drew.drew⟩
      ·have HR := Shut.mk (HB3.out.trans (if_neg (by rw [HN.out]; exact c4)))
       have l5 : ¬ (12 : Int) ≤ (n : Int) := by omega
       have hPv : PlAt wc.drew.drew.drew B gp me tm sq l L p cp := H1.out.1.below (((Below.refl _ _).drew).drew.drew)
       have hnx : NewM wc.drew.drew.drew B (MKp.mk (kp0 r.h) none 0 none 0 [] none 0) := ⟨⟨Lies.nil _ _, Lies.nil _ _, fun y hy => (by cases hy), rfl, Lies.nil _ _⟩, ⟨Nat.zero_le _, Nat.zero_le _, Nat.zero_le _, Nat.zero_le _, Nat.zero_le _, Nat.zero_le _⟩, fun b o e => (by cases e), fun b o e => (by cases e), fun b o e => (by cases e), fun y hy => (by cases hy), ⟨World.ownsRow_nil _ _ _ _, World.ownsRow_nil _ _ _ _⟩, ⟨fun b o b' o' e => (by cases e), fun _ b o b' o' e => (by cases e), fun _ b o b' o' e => (by cases e), fun y hy => (by cases hy), fun y hy => (by cases hy)⟩⟩
       have hIn : Calls Tryz.prog 107 #[.pointer (some ⟨gp, 0, none⟩), .agg #[.int .i64 r.h.F, .int .i64 r.h.Q, .int .i64 r.h.T, .int .i64 r.h.L, .int .i64 r.h.B, .int .i64 r.h.K, .bool false, .slice none 0 0, .slice none 0 0, .int .i64 0, .int .i64 0, .int .i64 0, .int .i64 0, .slice none 0 0, .bool false, .bool false]] wc.drew.drew.drew fun e w' => ∃ (g' c' : Nat), e = .returned (.pointer (some ⟨g', placeOf l r.h * 16, none⟩)) ∧ Shut (BunR B gp w ⟨me, l, tm, sq⟩ p 0 (insK l (placeOf l r.h) (kp0 r.h)) (placeOf l r.h) (some ⟨g', placeOf l r.h * 16, none⟩) w') := by
        have hi := insertPl_any B gp me tm sq l L p cp (MKp.mk (kp0 r.h) none 0 none 0 [] none 0) wc.drew.drew.drew hPv (by rw [HN.out]; omega) hnx (fun b e => by rcases e with ⟨o, e⟩ | ⟨o, e⟩ <;> cases e) (fun b _ => ⟨fun e => absurd rfl e, fun e => absurd rfl e, fun y hy => (by cases hy), fun e => absurd rfl e⟩)
        refine hi.mono ?_
        rintro e w' ⟨g', c2, rfl, HH⟩
        exact ⟨g', c2, rfl, ⟨(hbw.drew.drew.drew.mono H.out.2.2.2.1).trans HH.out.2.1, fun k h1 h2 h3 => (HH.out.2.2 k (Nat.lt_of_lt_of_le h1 hbw.size) h2 h3).trans (hbw.block k h1), fun _ => ⟨_, g', c2, rfl, HH.out.1⟩⟩⟩
       clear hnx hPv
       go_wp2_with fail
       refine hIn.mono ?_
       rintro e w5 ⟨g', c', rfl, R⟩
       clear hIn
       go_wp2
       go_ret2
       rw [HR.out]
       exact ⟨_, rfl, R⟩
  | some i =>
   obtain rfl : fi = (i : Int) := by rw [← HF.out]; unfold findI; rw [hfl]
   have hin : i < n := by rw [← HN.out]; exact findL_lt hfl
   obtain ⟨m, hm⟩ : ∃ m, L[i]? = some m := ⟨_, List.getElem?_eq_getElem (by rw [H.out.2.2.2.2.1]; exact hin)⟩
   have hlm : (l.map Kp.h)[i]? = some m.k.h := by rw [← H1.out.1.pl.says, List.map_map, List.getElem?_map, hm]; rfl
   have HB0 := Shut.mk (show (Pl.bundle ⟨me, l, tm, sq⟩ r) = if r.h.L ≤ tm then (7, [], 0) else if m.k.h ≠ r.h then (4, [], 0) else (0, l, i) from by
    unfold Pl.bundle
    simp only [hfl, hlm, ne_eq, Option.some.injEq])
   clear hfl hlm
   go_upto_region 5 with fail
   by_cases c2 : r.h.L ≤ tm
   ·have HR := Shut.mk (HB0.out.trans (if_pos c2))
    go_region
    all_goals
     go_wp2
     go_ret2
     rw [HR.out]
     exact ⟨none, rfl, bad _ _ _ _ _ (by show (7 : Int) ≠ 0; decide) hbw.drew⟩
   ·have HB1 := Shut.mk (HB0.out.trans (if_neg c2))
    obtain ⟨g, rfl⟩ : ∃ g, p = some ⟨g, 0, none⟩ := by
     rcases H1.out.1.pl.own.2 with ⟨_, h0⟩ | ⟨g, cap, cur, h1, _⟩
     ·have := HN.out; omega
     ·simp only [Value.slice.injEq] at h1
      exact ⟨g, h1.1⟩
    have hown := H1.out.1.pl.own
    rw [HN.out] at hown
    have hcp := (own_some hown).2
    have hcell : ∀ (a : Nat) (v : Value), m.cells[a]? = some v → wc.cell? ⟨g, i * 16 + a, none⟩ = some v := fun a v hv => by
     have := kp_cell ⟨(own_some hown).1, hm⟩ a hv
     rwa [Nat.zero_add] at this
    have p0 : wc.cell? ⟨g, i * 16, none⟩ = some (.int .i64 m.k.h.F) := hcell 0 _ rfl
    have p1 : wc.cell? ⟨g, i * 16 + 1, none⟩ = some (.int .i64 m.k.h.Q) := hcell 1 _ rfl
    have p2 : wc.cell? ⟨g, i * 16 + 2, none⟩ = some (.int .i64 m.k.h.T) := hcell 2 _ rfl
    have p3 : wc.cell? ⟨g, i * 16 + 3, none⟩ = some (.int .i64 m.k.h.L) := hcell 3 _ rfl
    have p4 : wc.cell? ⟨g, i * 16 + 4, none⟩ = some (.int .i64 m.k.h.B) := hcell 4 _ rfl
    have p5 : wc.cell? ⟨g, i * 16 + 5, none⟩ = some (.int .i64 m.k.h.K) := hcell 5 _ rfl
    have hic : i < cp := by omega
    have hE : ∀ W, (binOp .neq 34 (.agg #[.int .i64 m.k.h.F, .int .i64 m.k.h.Q, .int .i64 m.k.h.T, .int .i64 m.k.h.L, .int .i64 m.k.h.B, .int .i64 m.k.h.K]) (.agg #[.int .i64 r.h.F, .int .i64 r.h.Q, .int .i64 r.h.T, .int .i64 r.h.L, .int .i64 r.h.B, .int .i64 r.h.K])).run Tryz.prog W = .ok (.bool (!decide (m.k.h = r.h))) W := fun W => neqHead m.k.h r.h W
    clear hown hcell
    go_region
    all_goals go_upto_region 7 with fail
    by_cases c3 : m.k.h = r.h
    ·have HR := Shut.mk (HB1.out.trans (if_neg (fun e => e c3)))
     rw [decide_eq_true c3] at hE
     clear c3
     go_region
     all_goals
      go_wp2
      go_ret2
      rw [HR.out]
      exact ⟨_, rfl, ⟨hbw.drew.drew.mono H.out.2.2.2.1, fun k h1 _ _ => hbw.block k h1, fun _ => ⟨L, g, cp, rfl, H1.out.1.below ((Below.refl _ _).drew.drew)⟩⟩⟩
    ·have HR := Shut.mk (HB1.out.trans (if_pos c3))
     rw [decide_eq_false c3] at hE
     clear c3
     go_region
     all_goals
      go_wp2
      go_ret2
      rw [HR.out]
      exact ⟨none, rfl, bad _ _ _ _ _ (by show (4 : Int) ≠ 0; decide) hbw.drew.drew⟩

theorem newCellsA (W : World) {c : Array Value} {T : TypeId} {l : List Value} (h : c.toList = l) : ∀ j u, l[j]? = some u → (W.alloc (.cells c T)).cell? ((⟨W.heap.size, 0, none⟩ : Addr).add j) = some u := by
 intro j u hj
 subst h
 rw [Addr.add_lit, Nat.zero_add]
 exact cellB (w := W.alloc (.cells c T)) (by rw [heap_alloc_eq, if_pos rfl]) j u (by simpa using hj)

theorem entersHasSym : ∀ args w, (callFunc 110 args).run Tryz.prog w = .ok (.enter 110 args) w := enters_of Tryz.func110 (by kernel_rfl) rfl

theorem sym_done {B g o g1 cap : Nat} {w V U w' : World} {pre post : List Value} {m : MKp} {x : MSym} (hN : NewM w B m) (hf : FarM g m) (hgr : ¬ growB m g) (hg : B ≤ g) (hgw : g < w.heap.size) (hBw : B ≤ w.heap.size)
  (hwV : Below w.heap.size w V) (hx : SymIn V x) (hxc : x.d.length ≤ x.c) (hxa : ∀ b o, x.a = some ⟨b, o, none⟩ → w.heap.size ≤ b) (hVU : V.grownBy U (Value.slice m.ya m.ys.length m.yc).ownBlock) (hown : U.ownsRow B 38 2 (.slice (some ⟨g1, 0, none⟩) (m.ys.length + 1) cap) (m.ys.length + 1) (symCells (m.ys ++ [x])))
  (hwh : (Value.slice m.ya m.ys.length m.yc).ownBlock = some g1 ∨ V.heap.size ≤ g1) (hat : At16 w' g o pre post ({ m with ya := some ⟨g1, 0, none⟩, yc := cap, ys := m.ys ++ [x], k := { m.k with ss := m.k.ss ++ [x.says] } } : MKp).cells) (hUw : U.grownBy w' (some g)) (hlen : m.ys.length < 60) :
  ChgR B w w' g o pre post m { m with ya := some ⟨g1, 0, none⟩, yc := cap, ys := m.ys ++ [x], k := { m.k with ss := m.k.ss ++ [x.says] } } := by
 have hg00 : m.ya = some ⟨g1, 0, none⟩ ∨ V.heap.size ≤ g1 := by
  rcases hwh with h | h
  ·exact .inl (own_plain hN.own.1 h)
  ·exact .inr h
 have hg0 : m.ya = some ⟨g1, 0, none⟩ ∨ w.heap.size ≤ g1 := hg00.imp id (fun h => Nat.le_trans hwV.size h)
 have hg1 : growB m g1 ∨ w.heap.size ≤ g1 := by
  rcases hg0 with h | h
  ·exact .inl (.inl ⟨0, h⟩)
  ·exact .inr h
 have hne : g1 ≠ g := fun e => by
  subst e
  rcases hg1 with h | h
  ·exact hgr h
  ·omega
 have hxg : x.d ≠ [] → ∀ b o, x.a = some ⟨b, o, none⟩ → b ≠ g1 := fun hd b o' e => by
  have h1 := hxa b o' e
  have h2 := symIn_lt hx hd b o' e
  rcases hg00 with h | h
  ·have := (hN.own.1.lt g1 (by rw [h]; rfl)).2
   omega
  ·omega
 have hP : ∀ k, k < w.heap.size → ¬ (k = g ∨ ∃ o', m.ya = some ⟨k, o', none⟩) → w'.heap[k]? = w.heap[k]? := fun k h1 h2 => by
  have e1 := hwV.block k h1
  have hs := hwV.size
  have e2 := hVU.block k (by omega) (fun e => h2 (.inr ⟨0, own_plain hN.own.1 e.symm⟩))
  have e3 := hUw.block k (by have := hVU.size; omega) (fun e => h2 (.inl (Option.some.inj e)))
  exact e3.trans (e2.trans e1)
 have hrest : ∀ k, k < w.heap.size → k ≠ g → ¬ growB m k → w'.heap[k]? = w.heap[k]? := fun k h1 h2 h3 => hP k h1 (fun e => by
  rcases e with e | ⟨o', e⟩
  ·exact h2 e
  ·exact h3 (.inl ⟨o', e⟩))
 have hk : ∀ a, ∀ xs : List Value, Lies w a xs → (xs ≠ [] → ∀ c o', a = some ⟨c, o', none⟩ → c ≠ g ∧ ∀ k o2, m.ya = some ⟨k, o2, none⟩ → c ≠ k) → Lies w' a xs := fun a xs hl hf' => by
  intro k u hu
  obtain ⟨b, off, e, hcell⟩ := hl k u hu
  refine ⟨b, off, e, ?_⟩
  have hb := World.block_lt_of_cell? w _ hcell
  have hne' : xs ≠ [] := fun e0 => by rw [e0] at hu; cases hu
  have h2 := hf' hne' b off e
  have := hP b (by simpa using hb) (fun e0 => by
   rcases e0 with e0 | ⟨o', e0⟩
   ·exact h2.1 e0
   ·exact h2.2 b o' e0 rfl)
  rw [← hcell]
  simp only [World.cell?, this]
 have hxw : SymIn w' x := by
  refine ⟨?_, hx.2⟩
  intro k u hu
  obtain ⟨b, off, e, hcell⟩ := hx.1 k u hu
  refine ⟨b, off, e, ?_⟩
  have hb := World.block_lt_of_cell? V _ hcell
  have hd : x.d ≠ [] := fun e0 => by rw [e0] at hu; simp [bs] at hu
  have h1 := hxa b off e
  have e2 := hVU.block b (by simpa using hb) (fun e' => by
   have h3 := (hN.own.1.lt b e'.symm).2
   omega)
  have e3 := hUw.block b (by have := hVU.size; have : b < V.heap.size := by simpa using hb
                             omega) (fun e' => by have := Option.some.inj e'; omega)
  rw [← hcell]
  simp only [World.cell?, e3.trans e2]
 have hown' : w'.ownsRow B 38 2 (.slice (some ⟨g1, 0, none⟩) (m.ys.length + 1) cap) (m.ys.length + 1) (symCells (m.ys ++ [x])) := by
  refine own_at hown (fun k e => hUw.block k (hown.lt k e).2 (fun e2 => ?_))
  obtain rfl := Option.some.inj e2
  simp only [Value.ownBlock, Option.some.injEq] at e
  exact hne e
 have hll : (m.ys ++ [x]).length = m.ys.length + 1 := by simp
 obtain ⟨s1, s2, s3, s4, s5⟩ := hN.sep
 have hcap := own_some hown'
 have hcl : ∀ b b' o2, (some ⟨g1, 0, none⟩ : Option Addr) = some ⟨b', o2, none⟩ → (∀ k o2, m.ya = some ⟨k, o2, none⟩ → b ≠ k) → b < w.heap.size → b ≠ b' := fun b b' o2 e2 h1 h2 => by
  simp only [Option.some.injEq, Addr.mk.injEq] at e2
  obtain ⟨rfl, _⟩ := e2
  rcases hg0 with h | h
  ·exact h1 _ _ h
  ·omega
 refine ⟨hat, ⟨⟨?_, hcap.1, fun z hz => ?_, ?_, ?_⟩, ⟨hN.fits.c, ?_, hN.fits.t, hN.fits.cc, ?_, hN.fits.tc⟩, hN.ca, ?_, hN.ta, fun z hz => ?_, ⟨?_, ?_⟩, ?_⟩, ?_, ?_, hrest, hUw.os.trans (hVU.os.trans hwV.os), hUw.tape.trans (hVU.tape.trans hwV.tape), hUw.output.trans (hVU.output.trans hwV.output), Nat.le_trans hwV.size (Nat.le_trans hVU.size hUw.size)⟩
 ·exact hk _ _ hN.inn.c (fun e c o' ec => ⟨hf.c (bs_ne e) c o' ec, fun k o2 ek => fun e0 => s2 (bs_ne e) k o2 c o' ek ec e0.symm⟩)
 ·rcases List.mem_append.1 hz with hz | hz
  ·exact ⟨hk _ _ (hN.inn.ys z hz).1 (fun e c o' ec => ⟨hf.ys z hz (fun e0 => e (by rw [e0]; rfl)) c o' ec, fun k o2 ek => s4 z hz (fun e0 => e (by rw [e0]; rfl)) c o' k o2 ec ek⟩), (hN.inn.ys z hz).2⟩
  ·obtain rfl : z = x := by simpa using hz
   exact hxw
 ·show (m.ys ++ [x]).map MSym.says = m.k.ss ++ [x.says]
  rw [List.map_append, hN.inn.says]; rfl
 ·exact hk _ _ hN.inn.t (fun e c o' ec => ⟨hf.t (tk_ne e) c o' ec, fun k o2 ek => fun e0 => s1 k o2 c o' ek ec e0.symm⟩)
 ·show (m.ys ++ [x]).length ≤ maxLen
  rw [hll]; unfold maxLen; omega
 ·show (m.ys ++ [x]).length ≤ cap
  rw [hll]; exact hcap.2
 ·intro b o' e
  simp only [Option.some.injEq, Addr.mk.injEq] at e
  obtain ⟨rfl, _⟩ := e
  exact (hown'.lt _ rfl).1
 ·rcases List.mem_append.1 hz with hz | hz
  ·exact hN.ys z hz
  ·obtain rfl : z = x := by simpa using hz
   exact ⟨hxc, fun b o' e => Nat.le_trans hBw (hxa b o' e)⟩
 ·show w'.ownsRow B _ 2 (.slice (some ⟨g1, 0, none⟩) (m.ys ++ [x]).length cap) (m.ys ++ [x]).length _
  rw [hll]
  exact hown'
 ·refine own_at hN.own.2 (fun k e => hP k (hN.own.2.lt k e).2 (fun e0 => ?_))
  have et := own_plain hN.own.2 e
  rcases e0 with e0 | ⟨o', e0⟩
  ·exact hgr (.inr ⟨0, by rw [← e0]; exact et⟩)
  ·exact s1 k o' k 0 e0 et rfl
 ·refine ⟨fun b o1 b' o2 e1 e2 => ?_, fun hc b o1 b' o2 e1 e2 => ?_, s3, fun z hz hd b o1 b' o2 e1 e2 => ?_, fun z hz hd b o1 b' o2 e1 e2 => ?_⟩
  ·exact fun e0 => hcl b' b o1 e1 (fun k o3 ek => fun e3 => s1 k o3 b' o2 ek e2 e3.symm) (hN.own.2.lt b' (by rw [e2]; rfl)).2 e0.symm
  ·exact fun e0 => hcl b' b o1 e1 (fun k o3 ek => fun e3 => s2 hc k o3 b' o2 ek e2 e3.symm) (lies_block hN.inn.c (bs_ne' hc) b' o2 e2) e0.symm
  ·rcases List.mem_append.1 hz with hz | hz
   ·exact hcl b b' o2 e2 (fun k o3 ek => s4 z hz hd b o1 k o3 e1 ek) (symIn_lt (hN.inn.ys z hz) hd b o1 e1)
   ·obtain rfl : z = x := by simpa using hz
    simp only [Option.some.injEq, Addr.mk.injEq] at e2
    obtain ⟨rfl, _⟩ := e2
    exact hxg hd b o1 e1
  ·rcases List.mem_append.1 hz with hz | hz
   ·exact s5 z hz hd b o1 b' o2 e1 e2
   ·obtain rfl : z = x := by simpa using hz
    have h1 := hxa b o1 e1
    have h2 := (hN.own.2.lt b' (by rw [e2]; rfl)).2
    omega
 ·intro b hb h1 h2
  have hb1 : g1 ≠ b := fun e => by
   subst e
   rcases hg1 with h | h
   ·exact h2 h
   ·omega
  refine ⟨⟨h1.c, fun _ a o' e => ?_, fun z hz => ?_, h1.t⟩, fun e => ?_⟩
  ·simp only [Option.some.injEq, Addr.mk.injEq] at e
   obtain ⟨rfl, _⟩ := e
   exact hb1
  ·rcases List.mem_append.1 hz with hz | hz
   ·exact h1.ys z hz
   ·obtain rfl : z = x := by simpa using hz
    intro _ c o' e
    have := hxa c o' e
    omega
  ·rcases e with ⟨o', e⟩ | ⟨o', e⟩
   ·simp only [Option.some.injEq, Addr.mk.injEq] at e
    exact hb1 e.1
   ·exact h2 (.inr ⟨o', e⟩)
 ·intro b hb
  rcases hb with ⟨o', e⟩ | ⟨o', e⟩
  ·simp only [Option.some.injEq, Addr.mk.injEq] at e
   obtain ⟨rfl, _⟩ := e
   exact hg1
  ·exact .inl (.inr ⟨o', e⟩)

set_option maxHeartbeats 8000000 in
set_option maxRecDepth 8000 in
theorem keepSymbol_any (B : Nat) (m : MKp) (y : MSym) (g o : Nat) (pre post : List Value) (w : World) (h : At16 w g o pre post m.cells) (hN : NewM w B m) (hf : FarM g m) (hgr : ¬ growB m g) (hg : B ≤ g) (hy : SymIn w y) (hyd : y.d.length ≤ 65536) :
  Calls Tryz.prog 71 #[.pointer (some ⟨g, o, none⟩), .agg #[.int .i64 y.id, .slice y.a y.d.length y.c]] w fun e w' => e = .returned (.int .i64 (m.k.keep y.says).1) ∧ Shut (GrowsR B w g o pre post m (m.k.keep y.says).1 (m.k.keep y.says).2 w') := by
 obtain ⟨i0, hii, hz0, hz1, hz2⟩ : ∃ i, Tryz.prog.info? 38 = some i ∧ i.zero = some (.agg #[.int .i64 0, .slice none 0 0]) ∧ i.size = 2 ∧ i.bytes = 32 := by
  have h0 := info_cloneY
  cases hh : Tryz.prog.info? 38 with
  | none => rw [hh] at h0; cases h0
  | some i =>
   rw [hh] at h0
   simp only [Option.map_some, Option.some.injEq, Prod.mk.injEq] at h0
   exact ⟨i, rfl, h0.1, h0.2.1, h0.2.2⟩
 have hgw := h.lt
 obtain ⟨V, hV⟩ : ∃ V, w.alloc (.cells #[.int .i64 y.id, .slice y.a y.d.length y.c] 38) = V := ⟨_, rfl⟩
 have hbV : Below w.heap.size w V := by rw [← hV]; exact (Below.refl _ _).alloc (Nat.le_refl _) _
 have hkV : V.heap[w.heap.size]? = some (.cells #[.int .i64 y.id, .slice y.a y.d.length y.c] 38 (0, 0)) := by rw [← hV, heap_alloc_eq, if_pos rfl]
 have hA := h.below hbV
 have HB := Shut.mk (And.intro hbV (And.intro hkV (And.intro hA (And.intro hN (And.intro (hy.below hbV) hyd)))))
 have HG := Shut.mk (And.intro hf (And.intro hgr (And.intro hg hgw)))
 have HW := Shut.mk hV
 clear hbV hkV h hN hV hf hgr hg hgw hy hyd
 have bad : ∀ (z : Int) (k' : Kp) (u : World), z ≠ 0 → Below w.heap.size w u → Shut (GrowsR B w g o pre post m z k' u) := fun z k' u hz hu => ⟨hu.mono (by have := HG.out.2.2; omega), fun e => absurd e hz⟩
 have c6 := hA.cell 6 _ rfl
 have c0 : V.cell? ⟨g, o, none⟩ = some (.int .i64 m.k.h.F) := hA.cell 0 _ rfl
 have c1 : V.cell? ⟨g, o + 1, none⟩ = some (.int .i64 m.k.h.Q) := hA.cell 1 _ rfl
 have c2 : V.cell? ⟨g, o + 2, none⟩ = some (.int .i64 m.k.h.T) := hA.cell 2 _ rfl
 have c3 : V.cell? ⟨g, o + 3, none⟩ = some (.int .i64 m.k.h.L) := hA.cell 3 _ rfl
 have c4 : V.cell? ⟨g, o + 4, none⟩ = some (.int .i64 m.k.h.B) := hA.cell 4 _ rfl
 have c5 : V.cell? ⟨g, o + 5, none⟩ = some (.int .i64 m.k.h.K) := hA.cell 5 _ rfl
 have c7 : V.cell? ⟨g, o + 7, none⟩ = some (.slice m.ca m.k.c.length m.cc) := hA.cell 7 _ rfl
 have c8 : V.cell? ⟨g, o + 8, none⟩ = some (.slice m.ya m.ys.length m.yc) := hA.cell 8 _ rfl
 have c9 : V.cell? ⟨g, o + 9, none⟩ = some (.int .i64 m.k.sh) := hA.cell 9 _ rfl
 have c10 : V.cell? ⟨g, o + 10, none⟩ = some (.int .i64 m.k.gv) := hA.cell 10 _ rfl
 have c11 : V.cell? ⟨g, o + 11, none⟩ = some (.int .i64 m.k.tw) := hA.cell 11 _ rfl
 have c12 : V.cell? ⟨g, o + 12, none⟩ = some (.int .i64 m.k.tr) := hA.cell 12 _ rfl
 have c13 : V.cell? ⟨g, o + 13, none⟩ = some (.slice m.ta m.k.tk.length m.tc) := hA.cell 13 _ rfl
 have c14 : V.cell? ⟨g, o + 14, none⟩ = some (.bool m.k.dl) := hA.cell 14 _ rfl
 have c15 : V.cell? ⟨g, o + 15, none⟩ = some (.bool m.k.pg) := hA.cell 15 _ rfl
 clear hA
 have hbV := HB.out.1
 go_enter Tryz.func71, Tryz.ntmps71
 go_upto_region 1 with fail
 rw [HW.out]
 clear HW
 by_cases p1 : m.k.own = true
 ·have HR := Shut.mk (show m.k.keep y.says = (5, m.k) from by unfold Kp.keep; rw [if_pos p1])
  rw [p1] at c6
  clear p1
  go_wp2
  go_ret
  rw [HR.out]
  exact ⟨rfl, bad _ _ _ (by show (5 : Int) ≠ 0; decide) hbV⟩
 ·have HP1 := Shut.mk p1
  have p1' : m.k.own = false := by simpa using p1
  rw [p1'] at c6
  have hD := isDone_any m V
  simp only [MKp.val] at hD
  rw [p1'] at hD
  clear p1
  go_wp2_with fail
  refine hD.mono ?_
  rintro e W1 ⟨rfl, hb1⟩
  have hbw := hbV.trans (hb1.mono hbV.size)
  have A1 := HB.out.2.2.1.below hb1
  have k1 := blkB HB.out.2.1 hb1
  have hy1 := HB.out.2.2.2.2.1.below hb1
  clear hD hb1 c0 c1 c2 c3 c4 c5 c6 c7 c8 c9 c10 c11 c12 c13 c14 c15 hbV
  by_cases p2 : m.k.done = true
  ·have HR := Shut.mk (show m.k.keep y.says = (7, m.k) from by unfold Kp.keep; rw [if_neg HP1.out, if_pos p2])
   rw [p2]
   clear p2
   go_wp2
   go_ret
   rw [HR.out]
   exact ⟨rfl, bad _ _ _ (by show (7 : Int) ≠ 0; decide) hbw⟩
  ·have HP2 := Shut.mk p2
   have p2' : m.k.done = false := by simpa using p2
   rw [p2']
   clear p2 p2'
   have hCS : ∀ u : World, Below W1.heap.size W1 u → Calls Tryz.prog 110 #[.slice m.ya m.ys.length m.yc, .int .i64 y.id] u fun e w' => ∃ x, e = .returned x ∧ (∃ bq : Bool, x = .bool bq ∧ Shut (bq = m.k.ss.any (fun s => s.1 == y.says.1)) ∧ Below W1.heap.size W1 w') := fun u hu => by
    have hN' := HB.out.2.2.2.1
    refine (hasSymbol_any m.ya m.yc m.ys y.id u ((hN'.inn.y.below hbw (Nat.le_refl _)).below hu (Nat.le_refl _)) hN'.fits.y).mono ?_
    rintro e w' ⟨rfl, hb'⟩
    exact ⟨_, rfl, _, rfl, ⟨by rw [hN'.inn.says]; rfl⟩, hu.trans (hb'.mono hu.size)⟩
   have HCS := Shut.mk hCS
   have c8 : W1.drew.cell? ⟨g, o + 8, none⟩ = some (.slice m.ya m.ys.length m.yc) := A1.cell 8 _ rfl
   have b0 : W1.drew.cell? ⟨w.heap.size, 0, none⟩ = some (.int .i64 y.id) := (cellsY k1).1
   clear hCS
   go_upto_region 5 with fail
   go_region_law (refine step_call2 entersHasSym rfl (.tmp 19) (.tmp 21) 85 3 rfl _ _ rfl rfl (HCS.out _ ((Below.refl _ W1).drew)) ?_; rintro _ wk ⟨bq, rfl, hbq, hbk⟩)
   all_goals
    have hbwk := hbw.trans (hbk.mono hbw.size)
    have A2 := A1.below hbk
    have k2 := blkB k1 hbk
    have hy2 := hy1.below hbk
    have H2 := Shut.mk (And.intro hbwk (And.intro A2 (And.intro k2 hy2)))
    clear c8 b0 A1 k1 hy1 hbk hbw A2 k2 hy2
    have c8 := H2.out.2.1.cell 8 _ rfl
    by_cases p3 : m.k.ss.any (fun s => s.1 == y.says.1) = true
    ·have HR := Shut.mk (show m.k.keep y.says = (6, m.k) from by unfold Kp.keep; rw [if_neg HP1.out, if_neg HP2.out, if_pos p3])
     obtain rfl : bq = true := by rw [hbq.out]; exact p3
     clear p3
     go_wp2
     go_ret
     rw [HR.out]
     exact ⟨rfl, bad _ _ _ (by show (6 : Int) ≠ 0; decide) hbwk⟩
    ·obtain rfl : bq = false := by rw [hbq.out]; exact Bool.eq_false_iff.2 p3
     have hsl : m.k.ss.length = m.ys.length := MKp.sslen HB.out.2.2.2.1.inn
     by_cases p4 : 60 ≤ m.ys.length
     ·have HR := Shut.mk (show m.k.keep y.says = (2, m.k) from by unfold Kp.keep; rw [if_neg HP1.out, if_neg HP2.out, if_neg p3, if_pos (by rw [hsl]; exact p4)])
      clear p3 hsl
      have l5 : (60 : Int) ≤ (m.ys.length : Int) := by omega
      go_wp2
      go_ret
      rw [HR.out]
      exact ⟨rfl, bad _ _ _ (by show (2 : Int) ≠ 0; decide) hbwk⟩
     ·have HR := Shut.mk (show m.k.keep y.says = (0, { m.k with ss := m.k.ss ++ [y.says] }) from by unfold Kp.keep; rw [if_neg HP1.out, if_neg HP2.out, if_neg p3, if_neg (by rw [hsl]; exact p4)])
      clear p3 hsl
      have l5 : ¬ (60 : Int) ≤ (m.ys.length : Int) := by omega
      have l6 : m.ys.length < 60 := by omega
      go_upto_region 9 with fail
      have hN := HB.out.2.2.2.1
      have hBk : B ≤ wk.heap.size := by have := HG.out.2.2; have := hbwk.size; omega
      have c8d : wk.drew.cell? ⟨g, o + 8, none⟩ = some (.slice m.ya m.ys.length m.yc) := c8
      obtain ⟨y0, y1, _, _⟩ := cellsY (show wk.drew.heap[w.heap.size]? = _ from H2.out.2.2.1)
      have hSC : ∀ v : World, Below wk.heap.size wk v → Calls Tryz.prog 106 #[.agg #[.int .i64 y.id, .slice y.a y.d.length y.c]] v fun e w' => ∃ x, e = .returned x ∧ (∃ (qa : Option Addr) (ca' : Nat), x = .agg #[.int .i64 y.id, .slice qa y.d.length ca'] ∧ Shut (y.d.length ≤ ca' ∧ Lies w' qa (bs y.d) ∧ ∀ b o, qa = some ⟨b, o, none⟩ → wk.heap.size ≤ b) ∧ Below wk.heap.size wk w') := fun v hv => by
       refine (symbolCopy_any y.id y.a y.d.length y.c y.d v rfl HB.out.2.2.2.2.2 (H2.out.2.2.2.below hv).1).mono ?_
       rintro e w' ⟨qa, ca', rfl, H⟩
       exact ⟨_, rfl, qa, ca', rfl, ⟨H.out.1, H.out.2.1, fun b o' e => Nat.le_trans hv.size (H.out.2.2.2 b o' e)⟩, hv.trans (H.out.2.2.1.mono hv.size)⟩
      have HSC := Shut.mk hSC
      clear hSC
      go_region_law (first | (refine step_call1 entersSymCopy rfl (.tmp 35) 38 rfl _ rfl (HSC.out _ ((Below.refl _ wk).drew)) ?_; rintro _ ws ⟨qa, ca', rfl, hS, hbs⟩; have c8s : ws.cell? ⟨g, o + 8, none⟩ = some (.slice m.ya m.ys.length m.yc) := (H2.out.2.1.below hbs).cell 8 _ rfl; have Ys : ∀ ob : Obj, (ws.alloc ob).cell? ⟨g, o + 8, none⟩ = some (.slice m.ya m.ys.length m.yc) := fun ob => cellW (w := ws) c8s ((Below.refl _ _).alloc (Nat.le_refl _) ob)) | (refine step_append_lies _ rfl (.tmp 34) (.tmp 37) 85 rfl B 38 i0 (.agg #[.int .i64 0, .slice none 0 0]) 2 32 Tryz.underlying85 hii hz0 hz1 hz2 rfl (by decide) (.slice m.ya m.ys.length m.yc) m.ys.length (symCells m.ys) (by simp [Act.eval, Act.put]) (ownB (ownB (ownB hN.own.1 hbwk) hbs) ((Below.refl _ _).alloc (Nat.le_refl _) _)) ⟨ws.heap.size, 0, none⟩ 1 1 [.int .i64 y.id, .slice qa y.d.length ca'] (by simp [Act.eval, Act.put]) rfl (newCellsA ws rfl) (fun u hu => List.all_eq_true.1 (show List.all [.int .i64 y.id, .slice qa y.d.length ca'] (fun v => v.oneCell') = true from rfl) u hu) (by decide) (by unfold maxLen; omega) (by omega) (by have := hbs.size; simp; omega) _ rfl ?_; intro g1 cap w4 hown4 hgrow hat hlt4; have hA4 := At16.blk (H2.out.2.1.below hbs) ((hgrow.block g (by have := (H2.out.2.1.below hbs).lt; simp; omega) (fun e => HG.out.2.1 (.inl ⟨0, own_plain hN.own.1 e.symm⟩))).trans (((Below.refl _ ws).alloc (Nat.le_refl _) _).block g (H2.out.2.1.below hbs).lt)); have d8 := hA4.cell 8 _ rfl; have e8 := hA4.frz (o + 8)))
      all_goals
       have hbws := hbwk.trans (hbs.mono hbwk.size)
       have hwV : Below w.heap.size w (ws.alloc (.cells #[.int .i64 y.id, .slice qa y.d.length ca'] 38)) := hbws.alloc hbws.size _
       have hxi : SymIn (ws.alloc (.cells #[.int .i64 y.id, .slice qa y.d.length ca'] 38)) ⟨y.id, qa, ca', y.d⟩ := ⟨hS.out.2.1.below ((Below.refl _ ws).alloc (Nat.le_refl _) _) (Nat.le_refl _), H2.out.2.2.2.2⟩
       have D : Shut (GrowsR B w g o pre post m 0 { m.k with ss := m.k.ss ++ [y.says] } (w4.setCell ⟨g, o + 8, none⟩ (.slice (some ⟨g1, 0, none⟩) (m.ys.length + 1) cap))) := by
        have hC := sym_done (x := ⟨y.id, qa, ca', y.d⟩) hN HG.out.1 HG.out.2.1 HG.out.2.2.1 HG.out.2.2.2 (by have := HG.out.2.2; omega) hwV hxi hS.out.1 (fun b o' e => Nat.le_trans hbwk.size (hS.out.2.2 b o' e)) hgrow (by rw [symCells_append]; exact hown4) (by rcases hat with h | h; exact .inl h; exact .inr (Nat.le_of_eq h.symm)) (At16.conv (At16.set hA4 8 (by show 8 < 16; omega) _) (by simp only [MKp.cells, List.length_append, List.length_singleton]; rfl)) (grown_set (grown_refl _ _) _ _) l6
        exact ⟨hC.below hN HG.out.2.2.1 (by have := HG.out.2.2; omega), fun _ => ⟨_, rfl, hC⟩⟩
       clear hwV hxi hA4 d8 e8 hown4 hgrow hat hlt4 c8s Ys c8d y0 y1 c8
       go_wp2
       go_ret
       rw [HR.out]
       exact ⟨rfl, D⟩

theorem entersDecK : ∀ args w, (callFunc 111 args).run Tryz.prog w = .ok (.enter 111 args) w := enters_of Tryz.func111 (by kernel_rfl) rfl

theorem ChgR.over {B : Nat} {w w' : World} {g o : Nat} {pre post : List Value} {m : MKp} {k1 : Kp} (hc : k1.c = m.k.c) (ht : k1.tk = m.k.tk) (hat : At16 w' g o pre post ({ m with k := k1 } : MKp).letgo.cells) (hgw : w.grownBy w' (some g)) (hN : NewM w B m) (hf : FarM g m) (hgr : ¬ growB m g) :
  ChgR B w w' g o pre post m ({ m with k := k1 } : MKp).letgo := by
 have hk : ∀ j, j < w.heap.size → j ≠ g → w'.heap[j]? = w.heap[j]? := fun j h1 h2 => hgw.block j h1 (fun e => h2 (Option.some.inj e))
 have h1 : NewM w' B m := hN.keep (fun b => b = g) (fun b hb => by subst hb; exact ⟨hf, hgr⟩) (fun j hj h2 => hk j hj h2)
 refine ⟨hat, ⟨⟨?_, Lies.nil _ _, fun y hy => (by cases hy), rfl, ?_⟩, ⟨?_, Nat.zero_le _, ?_, ?_, Nat.zero_le _, ?_⟩, h1.ca, fun b o' e => (by cases e), h1.ta, fun y hy => (by cases hy), ⟨World.ownsRow_nil _ _ _ _, ?_⟩, ⟨fun b o1 b' o2 e => (by cases e), fun _ b o1 b' o2 e => (by cases e), fun e => h1.sep.2.2.1 (by rw [← hc]; exact e), fun y hy => (by cases hy), fun y hy => (by cases hy)⟩⟩, ?_, ?_, fun j e1 e2 _ => hk j e1 e2, hgw.os, hgw.tape, hgw.output, hgw.size⟩
 ·have := h1.inn.c; rw [← hc] at this; exact this
 ·have := h1.inn.t; rw [← ht] at this; exact this
 ·have := h1.fits.c; rw [← hc] at this; exact this
 ·have := h1.fits.t; rw [← ht] at this; exact this
 ·have := h1.fits.cc; rw [← hc] at this; exact this
 ·have := h1.fits.tc; rw [← ht] at this; exact this
 ·have := h1.own.2; rw [← ht] at this; exact this
 ·intro b _ f1 f2
  refine ⟨⟨fun e => f1.c (by rw [← hc]; exact e), fun e => absurd rfl e, fun y hy => (by cases hy), fun e => f1.t (by rw [← ht]; exact e)⟩, fun e => ?_⟩
  rcases e with ⟨o', e⟩ | ⟨o', e⟩
  ·cases e
  ·exact f2 (.inr ⟨o', e⟩)
 ·intro b e
  rcases e with ⟨o', e⟩ | ⟨o', e⟩
  ·cases e
  ·exact .inl (.inr ⟨o', e⟩)

set_option maxHeartbeats 8000000 in
set_option maxRecDepth 8000 in
theorem deliver_any (B : Nat) (m : MKp) (me : Int) (cg : List UInt8) (qa : Option Addr) (qc : Nat) (g o : Nat) (pre post : List Value) (w : World) (h : At16 w g o pre post m.cells) (hN : NewM w B m) (hf : FarM g m) (hgr : ¬ growB m g) (hg : B ≤ g) (hq : Lies w qa (bs cg)) (hi : I64 m.k.h.B ∧ I64 m.k.h.K) (hL : Laid w) :
  Calls Tryz.prog 72 #[.pointer (some ⟨g, o, none⟩), .int .i64 me, .slice qa cg.length qc] w fun e w' => e = .returned (.int .i64 (m.k.deliver me cg).1) ∧ Shut (GrowsR B w g o pre post m (m.k.deliver me cg).1 (m.k.deliver me cg).2 w') := by
 have hgw := h.lt
 have HB := Shut.mk (And.intro h (And.intro hN (And.intro hq (And.intro hi hL))))
 have HG := Shut.mk (And.intro hf (And.intro hgr (And.intro hg hgw)))
 clear hN hf hgr hg hgw hq hi hL
 have bad : ∀ (z : Int) (k' : Kp) (u : World), z ≠ 0 → Below w.heap.size w u → Shut (GrowsR B w g o pre post m z k' u) := fun z k' u hz hu => ⟨hu.mono (by have := HG.out.2.2; omega), fun e => absurd e hz⟩
 obtain ⟨cn, hcn⟩ : ∃ cn, cg.length = cn := ⟨_, rfl⟩
 have HCN := Shut.mk hcn
 rw [hcn]
 clear hcn
 have c0 : w.cell? ⟨g, o, none⟩ = some (.int .i64 m.k.h.F) := h.cell 0 _ rfl
 have c1 : w.cell? ⟨g, o + 1, none⟩ = some (.int .i64 m.k.h.Q) := h.cell 1 _ rfl
 have c2 : w.cell? ⟨g, o + 2, none⟩ = some (.int .i64 m.k.h.T) := h.cell 2 _ rfl
 have c3 : w.cell? ⟨g, o + 3, none⟩ = some (.int .i64 m.k.h.L) := h.cell 3 _ rfl
 have c4 : w.cell? ⟨g, o + 4, none⟩ = some (.int .i64 m.k.h.B) := h.cell 4 _ rfl
 have c5 : w.cell? ⟨g, o + 5, none⟩ = some (.int .i64 m.k.h.K) := h.cell 5 _ rfl
 have c6 : w.cell? ⟨g, o + 6, none⟩ = some (.bool m.k.own) := h.cell 6 _ rfl
 have c7 : w.cell? ⟨g, o + 7, none⟩ = some (.slice m.ca m.k.c.length m.cc) := h.cell 7 _ rfl
 have c8 : w.cell? ⟨g, o + 8, none⟩ = some (.slice m.ya m.ys.length m.yc) := h.cell 8 _ rfl
 have c9 : w.cell? ⟨g, o + 9, none⟩ = some (.int .i64 m.k.sh) := h.cell 9 _ rfl
 have c10 : w.cell? ⟨g, o + 10, none⟩ = some (.int .i64 m.k.gv) := h.cell 10 _ rfl
 have c11 : w.cell? ⟨g, o + 11, none⟩ = some (.int .i64 m.k.tw) := h.cell 11 _ rfl
 have c12 : w.cell? ⟨g, o + 12, none⟩ = some (.int .i64 m.k.tr) := h.cell 12 _ rfl
 have c13 : w.cell? ⟨g, o + 13, none⟩ = some (.slice m.ta m.k.tk.length m.tc) := h.cell 13 _ rfl
 have c14 : w.cell? ⟨g, o + 14, none⟩ = some (.bool m.k.dl) := h.cell 14 _ rfl
 have c15 : w.cell? ⟨g, o + 15, none⟩ = some (.bool m.k.pg) := h.cell 15 _ rfl
 clear h
 go_enter Tryz.func72, Tryz.ntmps72
 rcases eqDec m.k.h.T me with ⟨z1, z2, z3, z4⟩ | ⟨z1, z2, z3, z4⟩
 case inr =>
  have HR := Shut.mk (show m.k.deliver me cg = (5, m.k) from by unfold Kp.deliver; rw [if_pos z1])
  clear z1
  go_wp2
  go_ret
  rw [HR.out]
  exact ⟨rfl, bad _ _ _ (by show (5 : Int) ≠ 0; decide) (Below.refl _ _)⟩
 case inl =>
  have HP1 := Shut.mk z1
  clear z1
  have hD := isDone_any m w
  simp only [MKp.val] at hD
  go_wp2_with fail
  refine hD.mono ?_
  rintro e W1 ⟨rfl, hb1⟩
  have A1 := HB.out.1.below hb1
  clear hD c0 c1 c2 c3 c4 c5 c6 c7 c8 c9 c10 c11 c12 c13 c14 c15
  by_cases p2 : m.k.done = true
  ·have HR := Shut.mk (show m.k.deliver me cg = (7, m.k) from by unfold Kp.deliver; rw [if_neg (fun e => e HP1.out), if_pos p2])
   rw [p2]
   clear p2
   go_wp2
   go_ret
   rw [HR.out]
   exact ⟨rfl, bad _ _ _ (by show (7 : Int) ≠ 0; decide) hb1⟩
  ·have HP2 := Shut.mk p2
   have p2' : m.k.done = false := by simpa using p2
   rw [p2']
   clear p2 p2'
   have hin := HB.out.2.1.inn
   have hCD : ∀ u : World, Below W1.heap.size W1 u → Calls Tryz.prog 111 #[.agg #[.int .i64 m.k.h.B, .int .i64 m.k.h.K], .slice m.ya m.ys.length m.yc] u fun e w' => ∃ x, e = .returned x ∧ (∃ (a' : Option Addr) (c' : Nat), x = .tuple #[.slice a' (decRes m.k.h.B m.k.h.K m.k.ss).length c', .int .i64 (decCode m.k.h.B m.k.h.K m.k.ss)] ∧ Shut (Lies w' a' (bs (decRes m.k.h.B m.k.h.K m.k.ss))) ∧ Below W1.heap.size W1 w') := fun u hu => by
    have hd := decode_any m.k.h.B m.k.h.K m.ya m.yc m.ys u HB.out.2.2.2.1.1 HB.out.2.2.2.1.2 ((hin.y.below hb1 (Nat.le_refl _)).below hu (Nat.le_refl _)) (fun y hy => ((hin.ys y hy).below hb1).below hu) HB.out.2.1.fits.y ((HB.out.2.2.2.2.below hb1).below hu)
    rw [hin.says] at hd
    refine hd.mono ?_
    rintro e w' ⟨a', c', rfl, h1, h2⟩
    exact ⟨_, rfl, a', c', rfl, ⟨h1⟩, hu.trans (h2.mono hu.size)⟩
   have HCD := Shut.mk hCD
   have c4 : W1.drew.cell? ⟨g, o + 4, none⟩ = some (.int .i64 m.k.h.B) := A1.cell 4 _ rfl
   have c5 : W1.drew.cell? ⟨g, o + 5, none⟩ = some (.int .i64 m.k.h.K) := A1.cell 5 _ rfl
   have c8 : W1.drew.cell? ⟨g, o + 8, none⟩ = some (.slice m.ya m.ys.length m.yc) := A1.cell 8 _ rfl
   clear hCD hin
   go_upto_region 5 with fail
   generalize hdr : decRes m.k.h.B m.k.h.K m.k.ss = dr at HCD
   generalize hdc : decCode m.k.h.B m.k.h.K m.k.ss = z at HCD
   have HDR := Shut.mk (And.intro hdr hdc)
   clear hdr hdc
   go_region_law (refine step_call2 entersDecK rfl (.tmp 27) (.tmp 31) 32 85 rfl _ _ rfl rfl (HCD.out _ ((Below.refl _ W1).drew)) ?_; rintro _ wk ⟨a', c', rfl, hl', hbk⟩)
   all_goals
    have hbwk := hb1.trans (hbk.mono hb1.size)
    have A2 := A1.below hbk
    have H2 := Shut.mk (And.intro hbwk A2)
    clear c4 c5 c8 A1 hb1 hbk A2
    obtain ⟨dn, hdn⟩ : ∃ dn, dr.length = dn := ⟨_, rfl⟩
    have HDN := Shut.mk hdn
    rw [hdn]
    clear hdn
    rcases eqDec z 0 with ⟨z1, z2', z3', z4'⟩ | ⟨z1, z2', z3', z4'⟩
    case inr =>
     have HR := Shut.mk (show m.k.deliver me cg = (z, m.k) from by unfold Kp.deliver; rw [if_neg (fun e => e HP1.out), if_neg HP2.out, if_pos (by rw [HDR.out.2]; exact z1), HDR.out.2])
     have HZ := Shut.mk z1
     clear z1
     go_wp2
     go_ret
     rw [HR.out]
     exact ⟨rfl, bad _ _ _ HZ.out hbwk⟩
    case inl =>
     obtain rfl := z1
     have hE := bytesEqual_any a' qa c' qc dr cg wk hl'.out (HB.out.2.2.1.below hbwk (Nat.le_refl _))
     rw [HDN.out, HCN.out] at hE
     have c14 := H2.out.2.cell 14 _ rfl
     have f14 := H2.out.2.frz (o + 14)
     go_wp2_with fail
     refine hE.mono ?_
     rintro e w3 ⟨rfl, rfl⟩
     clear hE
     by_cases p3 : dr = cg
     ·have HR := Shut.mk (show m.k.deliver me cg = (0, ({ m.k with dl := true } : Kp).over) from by unfold Kp.deliver; rw [if_neg (fun e => e HP1.out), if_neg HP2.out, if_neg (fun e => e HDR.out.2), if_neg (fun e => e (HDR.out.1.trans p3))])
      rw [decide_eq_true p3]
      clear p3
      have hG := letGo_any { m with k := { m.k with dl := true } } g o pre post (wk.setCell ⟨g, o + 14, none⟩ (.bool true)) (At16.conv (At16.set H2.out.2 14 (by show 14 < 16; omega) _) rfl)
      go_wp2_with fail
      refine hG.mono ?_
      rintro e w5 ⟨rfl, H5⟩
      have D : Shut (GrowsR B w g o pre post m 0 ({ m.k with dl := true } : Kp).over w5) := by
       have hgr5 : w.grownBy w5 (some g) := grown_trans (grown_set (grown_of (some g) hbwk) _ _) H5.out.2
       have hC := ChgR.over (k1 := { m.k with dl := true }) rfl rfl H5.out.1 hgr5 HB.out.2.1 HG.out.1 HG.out.2.1
       exact ⟨hC.below HB.out.2.1 HG.out.2.2.1 (by have := HG.out.2.2; omega), fun _ => ⟨_, rfl, hC⟩⟩
      clear hG H5
      go_wp2
      go_ret
      rw [HR.out]
      exact ⟨rfl, D⟩
     ·have HR := Shut.mk (show m.k.deliver me cg = (9, m.k) from by unfold Kp.deliver; rw [if_neg (fun e => e HP1.out), if_neg HP2.out, if_neg (fun e => e HDR.out.2), if_pos (fun e => p3 (HDR.out.1.symm.trans e))])
      rw [decide_eq_false p3]
      clear p3
      go_wp2
      go_ret
      rw [HR.out]
      exact ⟨rfl, bad _ _ _ (by show (9 : Int) ≠ 0; decide) hbwk⟩

end Go.Proofs.YtakkajjoeimkdaaGreatDoor
