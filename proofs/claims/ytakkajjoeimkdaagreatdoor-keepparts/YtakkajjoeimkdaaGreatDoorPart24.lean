import Derived.Test.YtakkajjoeimkdaaGreatDoorPart22
import Derived.Test.YtakkajjoeimkdaaGreatDoorPart23
import Derived.Test.YtakkajjoeimkdaaGreatDoorPart18
import Derived.Deep.RegionHeld3
import Derived.BigRegion
namespace Go.Proofs.YtakkajjoeimkdaaGreatDoor
open Go.RowKit
set_option linter.unusedVariables false
set_option linter.unusedSimpArgs false
attribute [local go_sem ↓] Go.wp_at_zero Go.wp_at_succ

theorem step_call3 {f : FuncId} {ops : Array Oper} {o : Oper} {a : Act} {w : World} {K : Act → World → Prop} {Q : Exit → Act → World → Prop} {E : Prop} {R : Value → World → Prop} (eg : ∀ args w, (callFunc f args).run Tryz.prog w = .ok (.enter f args) w) (hgd : o.guard = none) (arg arg2 arg3 : Operand) (ty ty2 ty3 : TypeId)
  (ho : o.op = .call { callee := .value (.func f), args := #[arg, arg2, arg3], argTypes := #[ty, ty2, ty3] }) (v v2 v3 : Value) (hv : a.eval arg = v) (hv2 : a.eval arg2 = v2) (hv3 : a.eval arg3 = v3) (hc : Calls Tryz.prog f #[v, v2, v3] w fun e w' => ∃ x, e = .returned x ∧ R x w') (h : ∀ x w', R x w' → K (a.put o.dst x) w') :
  if Region.wanted o (yielded ops a.tmps) = true then Oper.wp Tryz.prog o a w K Q else E := by
 rw [if_pos (by simp [Region.wanted, hgd])]
 have hrun : (execOp a.eval o).run Tryz.prog w = .ok (.enter f #[v, v2, v3]) w := by
  have hf : a.eval (.func f) = .func (.func f) #[] #[] := rfl
  simp [execOp, ho, resolve, hf, eg, go_sem, invoke]
  refine ⟨?_, ?_, ?_⟩
  ·cases arg <;> simpa [Act.eval] using hv
  ·cases arg2 <;> simpa [Act.eval] using hv2
  ·cases arg3 <;> simpa [Act.eval] using hv3
 unfold Oper.wp
 rw [hrun, Oper.upon_enter]
 refine hc.mono ?_
 rintro e w' ⟨x, rfl, hr⟩
 exact h x w' hr

theorem allocDrewK (w : World) (o : Obj) : ((w.alloc o).drew).heap[w.heap.size]? = some o := by
 show (w.alloc o).heap[w.heap.size]? = some o
 rw [heap_alloc_eq, if_pos rfl]

theorem entersInsert3 : ∀ args w, (callFunc 130 args).run Tryz.prog w = .ok (.enter 130 args) w := enters_of Tryz.func130 (by kernel_rfl) rfl

structure PlAt (w : World) (B gp : Nat) (me tm sq : Int) (l : List Kp) (L : List MKp) (p : Option Addr) (cp : Nat) : Prop where
 box : w.heap[gp]? = some (.cells #[.int .i64 me, .slice p l.length cp, .int .i64 tm, .int .i64 sq] 25 (0, 0))
 pl : PlNew B w l L p cp
 lo : B ≤ gp
 ne : ∀ g o, p = some ⟨g, o, none⟩ → g ≠ gp
 off : ∀ m ∈ L, FarM gp m ∧ ¬ growB m gp

theorem PlAt.below {w w' : World} {B gp : Nat} {me tm sq : Int} {l : List Kp} {L : List MKp} {p : Option Addr} {cp : Nat} (h : PlAt w B gp me tm sq l L p cp) (hb : Below w.heap.size w w') : PlAt w' B gp me tm sq l L p cp := ⟨blkB h.box hb, h.pl.below hb, h.lo, h.ne, h.off⟩

theorem PlAt.lt {w : World} {B gp : Nat} {me tm sq : Int} {l : List Kp} {L : List MKp} {p : Option Addr} {cp : Nat} (h : PlAt w B gp me tm sq l L p cp) : gp < w.heap.size := (Array.getElem?_eq_some_iff.1 h.box).1

theorem PlNew.off {B b : Nat} {w w' : World} {l : List Kp} {L : List MKp} {p : Option Addr} {cp : Nat} (h : PlNew B w l L p cp) (hne : ∀ g o, p = some ⟨g, o, none⟩ → g ≠ b) (hoff : ∀ m ∈ L, FarM b m ∧ ¬ growB m b) (hk : ∀ k, k ≠ b → w'.heap[k]? = w.heap[k]?) : PlNew B w' l L p cp :=
 ⟨h.says, own_at h.own (fun g e => hk g (hne g 0 (own_plain h.own e))), fun m hm => ⟨(h.new m hm).1.keep (fun b' => b' = b) (fun b' e => by subst e; exact hoff m hm) (fun k _ e => hk k e), (h.new m hm).2⟩, h.far⟩

theorem PlAt.box' {w w' : World} {B gp : Nat} {me tm sq me' tm' sq' : Int} {l : List Kp} {L : List MKp} {p : Option Addr} {cp : Nat} (h : PlAt w B gp me tm sq l L p cp) (hb : w'.heap[gp]? = some (.cells #[.int .i64 me', .slice p l.length cp, .int .i64 tm', .int .i64 sq'] 25 (0, 0))) (hk : ∀ k, k ≠ gp → w'.heap[k]? = w.heap[k]?) :
  PlAt w' B gp me' tm' sq' l L p cp := by
 refine ⟨hb, ⟨h.pl.says, own_at h.pl.own (fun g e => hk g (h.ne g 0 (own_plain h.pl.own e))), fun m hm => ⟨?_, (h.pl.new m hm).2⟩, h.pl.far⟩, h.lo, h.ne, h.off⟩
 exact (h.pl.new m hm).1.keep (fun b => b = gp) (fun b e => by subst e; exact h.off m hm) (fun k _ e => hk k e)

theorem insK_map (L : List MKp) (i : Nat) (x : MKp) : (L.take i ++ x :: L.drop i).map MKp.k = insK (L.map MKp.k) i x.k := by
 simp [insK]

theorem PlNew.ins {B : Nat} {w w' : World} {l : List Kp} {L : List MKp} {p : Option Addr} {cp g' c' i : Nat} {x : MKp} (h : PlNew B w l L p cp) (hi : i ≤ L.length) (hx : NewM w B x) (hxg : ∀ b, ¬ growB x b) (hxf : ∀ b, ((∃ o, p = some ⟨b, o, none⟩) ∨ ∃ m ∈ L, growB m b) → FarM b x)
  (hown : w'.ownsRow B 88 16 (.slice (some ⟨g', 0, none⟩) (l.length + 1) c') (l.length + 1) (kpCells (L.take i ++ x :: L.drop i))) (hgr : w.grownBy w' (Value.slice p l.length cp).ownBlock) (hw : p = some ⟨g', 0, none⟩ ∨ w.heap.size ≤ g') :
  PlNew B w' (insK l i x.k) (L.take i ++ x :: L.drop i) (some ⟨g', 0, none⟩) c' := by
 have hlen : (insK l i x.k).length = l.length + 1 := by
  have : L.length = l.length := by rw [← h.says, List.length_map]
  simp [insK]; omega
 have hmem : ∀ m ∈ L, NewM w' B m := fun m hm => by
  have h1 := h.new m hm
  refine h1.1.keep (fun b => ∃ o, p = some ⟨b, o, none⟩) (fun b ⟨o, e⟩ => h1.2 b o e) (fun k hk hP => hgr.block k hk (fun e => hP ⟨0, own_plain h.own e.symm⟩))
 have hxw : NewM w' B x := hx.keep (fun b => ∃ o, p = some ⟨b, o, none⟩) (fun b e => ⟨hxf b (.inl e), hxg b⟩) (fun k hk hP => hgr.block k hk (fun e => hP ⟨0, own_plain h.own e.symm⟩))
 have hsplit : ∀ m, m ∈ L.take i ++ x :: L.drop i → m = x ∨ m ∈ L := fun m hm => by
  rcases List.mem_append.1 hm with hm | hm
  ·exact .inr (List.mem_of_mem_take hm)
  ·rcases List.mem_cons.1 hm with hm | hm
   ·exact .inl hm
   ·exact .inr (List.mem_of_mem_drop hm)
 have hfg : ∀ m, m ∈ L → FarM g' m ∧ ¬ growB m g' := fun m hm => by
  have h1 := h.new m hm
  rcases hw with e | e
  ·exact h1.2 g' 0 e
  ·exact ⟨farM_old h1.1.inn e, fun e2 => by have := (h1.1.grow_lt e2).2; omega⟩
 have hfx : FarM g' x := by
  rcases hw with e | e
  ·exact hxf g' (.inl ⟨0, e⟩)
  ·exact farM_old hx.inn e
 -- where an element of the new list stands in the old one
 have hidx : ∀ (j : Nat) (m : MKp), (L.take i ++ x :: L.drop i)[j]? = some m → (j = i ∧ m = x) ∨ ∃ j', L[j']? = some m ∧ ((j < i ∧ j' = j) ∨ (i < j ∧ j' + 1 = j)) := fun j m hj => by
  rcases Nat.lt_trichotomy j i with h1 | h1 | h1
  ·rw [List.getElem?_append_left (by rw [List.length_take]; omega), List.getElem?_take, if_pos h1] at hj
   exact .inr ⟨j, hj, .inl ⟨h1, rfl⟩⟩
  ·subst h1
   rw [List.getElem?_append_right (by rw [List.length_take]; omega), List.length_take, Nat.min_eq_left hi, Nat.sub_self] at hj
   exact .inl ⟨rfl, (Option.some.inj hj).symm⟩
  ·rw [List.getElem?_append_right (by rw [List.length_take]; omega), List.length_take, Nat.min_eq_left hi] at hj
   obtain ⟨t, rfl⟩ : ∃ t, j = i + (t + 1) := ⟨j - i - 1, by omega⟩
   rw [show i + (t + 1) - i = t + 1 by omega, List.getElem?_cons_succ, List.getElem?_drop] at hj
   exact .inr ⟨i + t, hj, .inr ⟨h1, by omega⟩⟩
 refine ⟨?_, by rw [hlen]; exact hown, fun m hm => ?_, fun j k a b hjk hj hk c hc => ?_⟩
 ·rw [insK_map, h.says]
 ·rcases hsplit m hm with rfl | hm
  ·refine ⟨hxw, fun g o e => ?_⟩
   simp only [Option.some.injEq, Addr.mk.injEq] at e
   obtain ⟨rfl, _⟩ := e
   exact ⟨hfx, hxg _⟩
  ·refine ⟨hmem m hm, fun g o e => ?_⟩
   simp only [Option.some.injEq, Addr.mk.injEq] at e
   obtain ⟨rfl, _⟩ := e
   exact hfg m hm
 ·rcases hidx j a hj with ⟨rfl, rfl⟩ | ⟨j', hj', e1⟩
  ·exact absurd hc (hxg c)
  ·rcases hidx k b hk with ⟨rfl, rfl⟩ | ⟨k', hk', e2⟩
   ·exact ⟨hxf c (.inr ⟨a, List.mem_of_getElem? hj', hc⟩), hxg c⟩
   ·exact h.far j' k' a b (by omega) hj' hk' c hc

set_option maxHeartbeats 8000000 in
set_option maxRecDepth 8000 in
theorem insertPl_any (B gp : Nat) (me tm sq : Int) (l : List Kp) (L : List MKp) (p : Option Addr) (cp : Nat) (x : MKp) (w : World) (hP : PlAt w B gp me tm sq l L p cp) (hn : l.length < 12) (hx : NewM w B x) (hxg : ∀ b, ¬ growB x b) (hxf : ∀ b, (b = gp ∨ (∃ o, p = some ⟨b, o, none⟩) ∨ ∃ m ∈ L, growB m b) → FarM b x) :
  Calls Tryz.prog 107 #[.pointer (some ⟨gp, 0, none⟩), .agg #[.int .i64 x.k.h.F, .int .i64 x.k.h.Q, .int .i64 x.k.h.T, .int .i64 x.k.h.L, .int .i64 x.k.h.B, .int .i64 x.k.h.K, .bool x.k.own, .slice x.ca x.k.c.length x.cc, .slice x.ya x.ys.length x.yc, .int .i64 x.k.sh, .int .i64 x.k.gv, .int .i64 x.k.tw, .int .i64 x.k.tr, .slice x.ta x.k.tk.length x.tc, .bool x.k.dl, .bool x.k.pg]] w fun e w' => ∃ (g' c' : Nat), e = .returned (.pointer (some ⟨g', placeOf l x.k.h * 16, none⟩)) ∧ Shut (PlAt w' B gp me tm sq (insK l (placeOf l x.k.h) x.k) (L.take (placeOf l x.k.h) ++ x :: L.drop (placeOf l x.k.h)) (some ⟨g', 0, none⟩) c' ∧ Below B w w' ∧ ∀ k, k < w.heap.size → k ≠ gp → (∀ o, p ≠ some ⟨k, o, none⟩) → w'.heap[k]? = w.heap[k]?) := by
 obtain ⟨n, hnl⟩ : ∃ n, l.length = n := ⟨_, rfl⟩
 have hLn : L.length = n := by rw [← hnl, ← hP.pl.says, List.length_map]
 have hBw : B ≤ w.heap.size := by have := hP.lo; have := hP.lt; omega
 obtain ⟨W, hW⟩ : ∃ W, w.alloc (.cells #[.int .i64 x.k.h.F, .int .i64 x.k.h.Q, .int .i64 x.k.h.T, .int .i64 x.k.h.L, .int .i64 x.k.h.B, .int .i64 x.k.h.K, .bool x.k.own, .slice x.ca x.k.c.length x.cc, .slice x.ya x.ys.length x.yc, .int .i64 x.k.sh, .int .i64 x.k.gv, .int .i64 x.k.tw, .int .i64 x.k.tr, .slice x.ta x.k.tk.length x.tc, .bool x.k.dl, .bool x.k.pg] 88) = W := ⟨_, rfl⟩
 have hb : Below w.heap.size w W := by rw [← hW]; exact (Below.refl _ _).alloc (Nat.le_refl _) _
 have hk : W.heap[w.heap.size]? = some (.cells #[.int .i64 x.k.h.F, .int .i64 x.k.h.Q, .int .i64 x.k.h.T, .int .i64 x.k.h.L, .int .i64 x.k.h.B, .int .i64 x.k.h.K, .bool x.k.own, .slice x.ca x.k.c.length x.cc, .slice x.ya x.ys.length x.yc, .int .i64 x.k.sh, .int .i64 x.k.gv, .int .i64 x.k.tw, .int .i64 x.k.tr, .slice x.ta x.k.tk.length x.tc, .bool x.k.dl, .bool x.k.pg] 88 (0, 0)) := by rw [← hW, heap_alloc_eq, if_pos rfl]
 have hPW := hP.below hb
 have hI := indexIns p cp L x.k.h w.heap.size W (by obtain ⟨_, _, e1, e2, _⟩ := own_gen hPW.pl.own; simp only [Value.slice.injEq] at e1; obtain ⟨rfl, _, _⟩ := e1; exact e2) (by rw [hLn]; unfold maxLen; omega) ⟨cellB hk 0 _ rfl, cellB hk 1 _ rfl, cellB hk 2 _ rfl, cellB hk 3 _ rfl, cellB hk 4 _ rfl, cellB hk 5 _ rfl⟩
 rw [hLn] at hI
 have hpo := placeOf_idx L x.k.h
 rw [hP.pl.says, hLn] at hpo
 generalize hat : idxP (fun Y : MKp => x.k.h.ahead Y.k.h) L = at0 at hI hpo
 have hle : at0 < (n : Int) := by
  rw [← hat]
  unfold idxP
  split
  ·omega
  ·omega
 obtain ⟨b0, b1, b2, b3⟩ := plBox hPW.box
 rw [hnl] at b1
 -- where it belongs
 obtain ⟨i, hi, hin⟩ : ∃ i : Nat, placeOf l x.k.h = i ∧ i ≤ n := ⟨_, rfl, by rw [hpo]; split <;> omega⟩
 rw [hi]
 have hii : at0 < 0 ∧ i = n ∨ ¬ at0 < 0 ∧ at0 = (i : Int) := by
  rw [← hi, hpo]
  split
  ·exact .inl ⟨by assumption, rfl⟩
  ·exact .inr ⟨by assumption, by omega⟩
 have HI := Shut.mk (And.intro hpo (And.intro hi hin))
 have HN := Shut.mk hnl
 have HW := Shut.mk hW
 have H := Shut.mk (And.intro hPW (And.intro hk (And.intro hb (And.intro hx (And.intro hBw (And.intro hnl hLn))))))
 clear hW hk hb hP hPW hx hLn hBw hat
 go_enter Tryz.func107, Tryz.ntmps107
 go_upto_region 1 with fail
 rw [HW.out]
 clear HW
 go_wp2_with fail
 refine hI.mono ?_
 rintro e W1 ⟨rfl, hb1⟩
 have hP1 := H.out.1.below hb1
 have hk1 := blkB H.out.2.1 hb1
 clear hI b0 b1 b2 b3
 obtain ⟨b0, b1, b2, b3⟩ := plBox hP1.box
 rw [hnl] at b1
 clear hpo hi hnl
 have f1 := frzB hP1.box 1
 have hIns : ∀ (u : World) (vb : Nat), Below W1.heap.size W1 u → W1.heap.size ≤ vb → u.heap[vb]? = some (.cells #[.int .i64 x.k.h.F, .int .i64 x.k.h.Q, .int .i64 x.k.h.T, .int .i64 x.k.h.L, .int .i64 x.k.h.B, .int .i64 x.k.h.K, .bool x.k.own, .slice x.ca x.k.c.length x.cc, .slice x.ya x.ys.length x.yc, .int .i64 x.k.sh, .int .i64 x.k.gv, .int .i64 x.k.tw, .int .i64 x.k.tr, .slice x.ta x.k.tk.length x.tc, .bool x.k.dl, .bool x.k.pg] 88 (0, 0)) → Calls Tryz.prog 130 #[.slice p n cp, .int .i64 (i : Int), .slice (some ⟨vb, 0, none⟩) 1 1] u fun e w' => ∃ v, e = .returned v ∧ (∃ g' c' : Nat, v = .slice (some ⟨g', 0, none⟩) (n + 1) c' ∧ Shut (w'.ownsRow B 88 16 (.slice (some ⟨g', 0, none⟩) (n + 1) c') (n + 1) (kpCells (L.take i ++ x :: L.drop i)) ∧ W1.grownBy w' (Value.slice p n cp).ownBlock ∧ (p = some ⟨g', 0, none⟩ ∨ W1.heap.size ≤ g'))) := fun u vb hu hvb hk => by
  have hown := hP1.pl.own
  rw [H.out.2.2.2.2.2.1] at hown
  refine (insertK_any B p n cp vb i L x u (by have := H.out.2.2.2.2.2.1; omega) HI.out.2.2 (by have := H.out.2.2.2.2.1; have := H.out.2.2.1.size; have := hb1.size; have := hu.size; omega) (ownB hown hu) (fun g o e => by have := (hown.lt g (by rw [e]; rfl)).2; omega) hk).mono ?_
  rintro e w' ⟨g', c', rfl, HH⟩
  refine ⟨_, rfl, g', c', rfl, ⟨HH.out.1, ⟨HH.out.2.1.os.trans hu.os, HH.out.2.1.tape.trans hu.tape, HH.out.2.1.output.trans hu.output, Nat.le_trans hu.size HH.out.2.1.size, fun k h1 h2 => (HH.out.2.1.block k (Nat.lt_of_lt_of_le h1 hu.size) h2).trans (hu.block k h1)⟩, HH.out.2.2.imp id (fun h => Nat.le_trans hu.size h)⟩⟩
 have HIns := Shut.mk hIns
 have H1 := Shut.mk (And.intro hP1 (And.intro hk1 hb1))
 have z1 : W1.drew.cell? ⟨gp, 1, none⟩ = some (.slice p n cp) := b1
 have Y : ∀ ob : Obj, ((W1.alloc ob).drew).cell? ⟨gp, 1, none⟩ = some (.slice p n cp) := fun ob => cellW (w := W1) b1 (((Below.refl _ _).alloc (Nat.le_refl _) ob).drew)
 obtain ⟨x0, x1, x2, x3, x4, x5, x6, x7, x8, x9, x10, x11, x12, x13, x14, x15⟩ := kpCellsOf (show W1.drew.heap[w.heap.size]? = _ from hk1)
 clear hIns hP1 hk1 hb1
 rcases hii with ⟨hz, hq⟩ | ⟨hz, rfl⟩
 ·have hq' : n = i := hq.symm
  subst hq'
  go_upto_region 4 with fail
  go_region_law (refine step_call3 entersInsert3 rfl (.tmp 23) (.tmp 24) (.tmp 26) 23 3 23 rfl _ _ _ rfl rfl rfl (HIns.out _ W1.heap.size (((Below.refl _ W1).alloc (Nat.le_refl _) _).drew) (Nat.le_refl _) (allocDrewK _ _)) ?_; rintro _ wj ⟨g', c', rfl, HJ⟩; have hgx : wj.heap[gp]? = _ := (HJ.out.2.1.block gp H1.out.1.lt (fun e => H1.out.1.ne gp 0 (own_plain H1.out.1.pl.own (by rw [HN.out]; exact e.symm)) rfl)).trans H1.out.1.box; have j1 := (plBox hgx).2.1; have g1 := frzB hgx 1)
  all_goals
   obtain ⟨V, hV, hbV, hoV, hBV⟩ := setK4 wj gp 25 _ _ _ _ (.slice (some ⟨g', 0, none⟩) (n + 1) c') hgx
   have R : Shut (PlAt V B gp me tm sq (insK l n x.k) (L.take n ++ x :: L.drop n) (some ⟨g', 0, none⟩) c' ∧ Below B w V ∧ ∀ k, k < w.heap.size → k ≠ gp → (∀ o, p ≠ some ⟨k, o, none⟩) → V.heap[k]? = w.heap[k]?) := by
    have hpl := H1.out.1.pl
    have hown := HJ.out.1
    have hgr := HJ.out.2.1
    have hBW : Below w.heap.size w W1 := H.out.2.2.1.trans (H1.out.2.2.mono H.out.2.2.1.size)
    have hx1 : NewM W1 B x := H.out.2.2.2.1.below hBW
    have hn1 := hpl.ins (i := n) (g' := g') (c' := c') (by rw [H.out.2.2.2.2.2.2]; exact HI.out.2.2) hx1 hxg (fun b hb => hxf b (.inr hb)) (by rw [HN.out]; exact hown) (by rw [HN.out]; exact hgr) HJ.out.2.2
    have hil : (insK l n x.k).length = n + 1 := by
     have h1 := congrArg List.length (insK_map L n x)
     have h2 := hn1.own.1
     rw [kpCells_length] at h2
     rw [hpl.says, List.length_map] at h1
     have h3 := hown.1
     rw [kpCells_length] at h3
     omega
    have hlt := H1.out.1.lt
    refine ⟨⟨by rw [hil]; exact hbV, hn1.off (b := gp) (fun g o e => ?_) (fun m hm => ?_) hoV, H1.out.1.lo, fun g o e => ?_, fun m hm => ?_⟩, hBV B w H1.out.1.lo ((hBW.mono H.out.2.2.2.2.1).trans ⟨hgr.os, hgr.tape, hgr.output, hgr.size, fun k hk => hgr.block k (by have := H.out.2.2.2.2.1; have := hBW.size; omega) (fun e => by have := (hpl.own.lt k (by rw [HN.out]; exact e.symm)).1; omega)⟩), fun k h1 h2 h3 => (hoV k h2).trans ((hgr.block k (by have := hBW.size; omega) (fun e => h3 0 (own_plain hpl.own (by rw [HN.out]; exact e.symm)))).trans (hBW.block k h1))⟩
    all_goals try (
     simp only [Option.some.injEq, Addr.mk.injEq] at e
     obtain ⟨rfl, _⟩ := e
     rcases HJ.out.2.2 with h | h
     ·exact H1.out.1.ne _ 0 h
     ·omega)
    all_goals
     rcases List.mem_append.1 hm with hm | hm
     ·exact H1.out.1.off m (List.mem_of_mem_take hm)
     ·rcases List.mem_cons.1 hm with rfl | hm
      ·exact ⟨hxf gp (.inl rfl), hxg gp⟩
      ·exact H1.out.1.off m (List.mem_of_mem_drop hm)
   rw [hV]
   clear hV hoV hBV hgx j1 g1 z1 Y x0 x1 x2 x3 x4 x5 x6 x7 x8 x9 x10 x11 x12 x13 x14 x15 HJ b0 b1 b2 b3 f1
   obtain ⟨b0, b1, b2, b3⟩ := plBox hbV
   go_wp2
   go_ret
   exact ⟨g', c', rfl, R⟩
 ·go_upto_region 4 with fail
  go_region_law (refine step_call3 entersInsert3 rfl (.tmp 23) (.tmp 24) (.tmp 26) 23 3 23 rfl _ _ _ rfl rfl rfl (HIns.out _ W1.heap.size (((Below.refl _ W1).alloc (Nat.le_refl _) _).drew) (Nat.le_refl _) (allocDrewK _ _)) ?_; rintro _ wj ⟨g', c', rfl, HJ⟩; have hgx : wj.heap[gp]? = _ := (HJ.out.2.1.block gp H1.out.1.lt (fun e => H1.out.1.ne gp 0 (own_plain H1.out.1.pl.own (by rw [HN.out]; exact e.symm)) rfl)).trans H1.out.1.box; have j1 := (plBox hgx).2.1; have g1 := frzB hgx 1)
  all_goals
   obtain ⟨V, hV, hbV, hoV, hBV⟩ := setK4 wj gp 25 _ _ _ _ (.slice (some ⟨g', 0, none⟩) (n + 1) c') hgx
   have R : Shut (PlAt V B gp me tm sq (insK l i x.k) (L.take i ++ x :: L.drop i) (some ⟨g', 0, none⟩) c' ∧ Below B w V ∧ ∀ k, k < w.heap.size → k ≠ gp → (∀ o, p ≠ some ⟨k, o, none⟩) → V.heap[k]? = w.heap[k]?) := by
    have hpl := H1.out.1.pl
    have hown := HJ.out.1
    have hgr := HJ.out.2.1
    have hBW : Below w.heap.size w W1 := H.out.2.2.1.trans (H1.out.2.2.mono H.out.2.2.1.size)
    have hx1 : NewM W1 B x := H.out.2.2.2.1.below hBW
    have hn1 := hpl.ins (i := i) (g' := g') (c' := c') (by rw [H.out.2.2.2.2.2.2]; exact HI.out.2.2) hx1 hxg (fun b hb => hxf b (.inr hb)) (by rw [HN.out]; exact hown) (by rw [HN.out]; exact hgr) HJ.out.2.2
    have hil : (insK l i x.k).length = n + 1 := by
     have h1 := congrArg List.length (insK_map L i x)
     have h2 := hn1.own.1
     rw [kpCells_length] at h2
     rw [hpl.says, List.length_map] at h1
     have h3 := hown.1
     rw [kpCells_length] at h3
     omega
    have hlt := H1.out.1.lt
    refine ⟨⟨by rw [hil]; exact hbV, hn1.off (b := gp) (fun g o e => ?_) (fun m hm => ?_) hoV, H1.out.1.lo, fun g o e => ?_, fun m hm => ?_⟩, hBV B w H1.out.1.lo ((hBW.mono H.out.2.2.2.2.1).trans ⟨hgr.os, hgr.tape, hgr.output, hgr.size, fun k hk => hgr.block k (by have := H.out.2.2.2.2.1; have := hBW.size; omega) (fun e => by have := (hpl.own.lt k (by rw [HN.out]; exact e.symm)).1; omega)⟩), fun k h1 h2 h3 => (hoV k h2).trans ((hgr.block k (by have := hBW.size; omega) (fun e => h3 0 (own_plain hpl.own (by rw [HN.out]; exact e.symm)))).trans (hBW.block k h1))⟩
    all_goals try (
     simp only [Option.some.injEq, Addr.mk.injEq] at e
     obtain ⟨rfl, _⟩ := e
     rcases HJ.out.2.2 with h | h
     ·exact H1.out.1.ne _ 0 h
     ·omega)
    all_goals
     rcases List.mem_append.1 hm with hm | hm
     ·exact H1.out.1.off m (List.mem_of_mem_take hm)
     ·rcases List.mem_cons.1 hm with rfl | hm
      ·exact ⟨hxf gp (.inl rfl), hxg gp⟩
      ·exact H1.out.1.off m (List.mem_of_mem_drop hm)
   rw [hV]
   clear hV hoV hBV hgx j1 g1 z1 Y x0 x1 x2 x3 x4 x5 x6 x7 x8 x9 x10 x11 x12 x13 x14 x15 HJ b0 b1 b2 b3 f1
   obtain ⟨b0, b1, b2, b3⟩ := plBox hbV
   go_wp2
   go_ret
   exact ⟨g', c', rfl, R⟩

theorem setK4d (W : World) (g : Nat) (T : TypeId) (a b c d v : Value) (h : W.heap[g]? = some (.cells #[a, b, c, d] T (0, 0))) :
  ∃ W', W.setCell ⟨g, 3, none⟩ v = W' ∧ W'.heap[g]? = some (.cells #[a, b, c, v] T (0, 0)) ∧ (∀ k, k ≠ g → W'.heap[k]? = W.heap[k]?) ∧ ∀ B w, B ≤ g → Below B w W → Below B w W' := by
 refine ⟨_, rfl, ?_, fun k hk => setCell_far _ _ hk, fun B w hB hb => hb.setCell (p := ⟨g, 3, none⟩) hB _⟩
 have := setCell_blk (v := v) h 3
 simpa using this

def DoR (B gp : Nat) (w : World) (z : Int) (P : Pl) (w' : World) : Prop := Below B w w' ∧ (z = 0 → ∃ (L : List MKp) (p : Option Addr) (cp : Nat), PlAt w' B gp P.me P.tm P.sq P.kp L p cp)

set_option maxHeartbeats 8000000 in
set_option maxRecDepth 8000 in
theorem send_any (B gp : Nat) (P : Pl) (L : List MKp) (p : Option Addr) (cp : Nat) (r : Rc) (da : Option Addr) (dc : Nat) (ca : Option Addr) (cc : Nat) (w : World) (hP : PlAt w B gp P.me P.tm P.sq P.kp L p cp) (hca : Lies w ca (bs r.c)) (hc : r.c.length ≤ 65536) (hsq : 0 ≤ P.sq ∧ P.sq ≤ 1000) :
  Calls Tryz.prog 68 #[.pointer (some ⟨gp, 0, none⟩), rcV r da dc ca cc] w fun e w' => e = .returned (.int .i64 (P.send r).1) ∧ Shut (DoR B gp w (P.send r).1 (P.send r).2 w') := by
 obtain ⟨me, l, tm, sq⟩ := P
 simp only at hP hsq
 obtain ⟨n, hnl⟩ : ∃ n, l.length = n := ⟨_, rfl⟩
 have hBw : B ≤ w.heap.size := by have := hP.lo; have := hP.lt; omega
 obtain ⟨W, hW⟩ : ∃ W, w.alloc (.cells #[.int .i64 r.k, .int .i64 r.p, .int .i64 r.n, .int .i64 r.y, .int .i64 r.h.F, .int .i64 r.h.Q, .int .i64 r.h.T, .int .i64 r.h.L, .int .i64 r.h.B, .int .i64 r.h.K, .int .i64 r.id, .slice da r.d.length dc, .slice ca r.c.length cc] 40) = W := ⟨_, rfl⟩
 have hb : Below w.heap.size w W := by rw [← hW]; exact (Below.refl _ _).alloc (Nat.le_refl _) _
 have hk : W.heap[w.heap.size]? = some (.cells #[.int .i64 r.k, .int .i64 r.p, .int .i64 r.n, .int .i64 r.y, .int .i64 r.h.F, .int .i64 r.h.Q, .int .i64 r.h.T, .int .i64 r.h.L, .int .i64 r.h.B, .int .i64 r.h.K, .int .i64 r.id, .slice da r.d.length dc, .slice ca r.c.length cc] 40 (0, 0)) := by rw [← hW, heap_alloc_eq, if_pos rfl]
 have hPW := hP.below hb
 have hw1 : IntKind.i64.wrap (sq + 1) = sq + 1 := by rw [IntKind.wrap_i64]; omega
 obtain ⟨b0, b1, b2, b3⟩ := plBox hPW.box
 rw [hnl] at b1
 obtain ⟨a0, a1, a2, a3, a4, a5, a6, a7, a8, a9, a10, a11, a12⟩ := rcBox hk
 have HW := Shut.mk hW
 have HN := Shut.mk hnl
 have H := Shut.mk (And.intro hPW (And.intro hk (And.intro hb (And.intro hBw (And.intro hca (And.intro hc hP))))))
 have bad : ∀ (z : Int) (P' : Pl) (u : World), z ≠ 0 → Below w.heap.size w u → Shut (DoR B gp w z P' u) := fun z P' u hz hu => ⟨hu.mono H.out.2.2.2.1, fun e => absurd e hz⟩
 clear hW hk hP hPW hBw hca hc hsq hnl
 have hbW := hb
 clear hb
 unfold rcV
 go_enter Tryz.func68, Tryz.ntmps68
 go_upto_region 1 with fail
 rw [HW.out]
 clear HW
 rcases eqDec r.h.F me with ⟨y1, y2, y3, y4⟩ | ⟨y1, y2, y3, y4⟩
 case inr =>
  have HR := Shut.mk (show (Pl.send ⟨me, l, tm, sq⟩ r) = (5, ⟨me, l, tm, sq⟩) from by unfold Pl.send; rw [if_pos y1])
  clear y1
  go_region
  all_goals
   go_wp2
   go_ret
   rw [HR.out]
   exact ⟨rfl, bad _ _ _ (by show (5 : Int) ≠ 0; decide) hbW.drew⟩
 case inl =>
  have HP1 := Shut.mk y1
  clear y1
  go_region
  all_goals go_upto_region 3 with fail
  by_cases p2 : r.h.Q ≠ sq ∨ r.h.L ≤ tm
  ·have HR := Shut.mk (show (Pl.send ⟨me, l, tm, sq⟩ r) = (7, ⟨me, l, tm, sq⟩) from by unfold Pl.send; rw [if_neg (fun e => e HP1.out), if_pos p2])
   rcases eqDec r.h.Q sq with ⟨q1, q2, q3, q4⟩ | ⟨q1, q2, q3, q4⟩
   ·have l1 : r.h.L ≤ tm := p2.resolve_left (fun e => e q1)
    clear p2 q1
    go_region
    all_goals
     go_wp2
     go_ret
     rw [HR.out]
     exact ⟨rfl, bad _ _ _ (by show (7 : Int) ≠ 0; decide) hbW.drew.drew⟩
   ·clear p2 q1
    go_region
    all_goals
     go_wp2
     go_ret
     rw [HR.out]
     exact ⟨rfl, bad _ _ _ (by show (7 : Int) ≠ 0; decide) hbW.drew.drew⟩
  ·have HP2 := Shut.mk p2
   have q1 : r.h.Q = sq := by omega
   have q2 : (r.h.Q == sq) = true := by simpa using q1
   have q3 : (r.h.Q != sq) = false := by simpa using q1
   have l1 : ¬ r.h.L ≤ tm := by omega
   clear p2 q1
   go_region
   all_goals go_upto_region 5 with fail
   have hWi := kwithin_any r.n 1 64 W.drew.drew
   clear q2 q3 l1 y2 y3 y4
   go_wp2_with fail
   refine hWi.mono ?_
   rintro e w2 ⟨rfl, rfl⟩
   clear hWi
   by_cases p3 : 1 ≤ r.n ∧ r.n ≤ 64
   case neg =>
    have HR := Shut.mk (show (Pl.send ⟨me, l, tm, sq⟩ r) = (3, ⟨me, l, tm, sq⟩) from by unfold Pl.send; rw [if_neg (fun e => e HP1.out), if_neg HP2.out, if_pos p3])
    rw [decide_eq_false p3]
    clear p3
    go_wp2
    go_ret
    rw [HR.out]
    exact ⟨rfl, bad _ _ _ (by show (3 : Int) ≠ 0; decide) hbW.drew.drew⟩
   case pos =>
    rw [decide_eq_true p3]
    by_cases p4 : 12 ≤ n
    case pos =>
     have HR := Shut.mk (show (Pl.send ⟨me, l, tm, sq⟩ r) = (2, ⟨me, l, tm, sq⟩) from by unfold Pl.send; rw [if_neg (fun e => e HP1.out), if_neg HP2.out, if_neg (fun e => e p3), if_pos (by show 12 ≤ l.length; rw [HN.out]; exact p4)])
     clear p3
     have l5 : (12 : Int) ≤ (n : Int) := by omega
     go_wp2
     go_ret
     rw [HR.out]
     exact ⟨rfl, bad _ _ _ (by show (2 : Int) ≠ 0; decide) hbW.drew.drew⟩
    case neg =>
     have HR := Shut.mk (show (Pl.send ⟨me, l, tm, sq⟩ r) = (0, ⟨me, insK l (placeOf l r.h) { kp0 r.h with own := true, c := r.c, sh := r.n }, tm, sq + 1⟩) from by unfold Pl.send; rw [if_neg (fun e => e HP1.out), if_neg HP2.out, if_neg (fun e => e p3), if_neg (by show ¬ 12 ≤ l.length; rw [HN.out]; exact p4)])
     clear p3
     have l5 : ¬ (12 : Int) ≤ (n : Int) := by omega
     go_upto_region 9 with fail
     have hPW := H.out.1
     have hlW := hPW.lt
     have hCl : ∀ v : World, Below W.heap.size W v → Calls Tryz.prog 103 #[.slice ca r.c.length cc] v fun e w' => ∃ (q : Option Addr) (c' : Nat), e = .returned (.slice q r.c.length c') ∧ Shut (r.c.length ≤ c' ∧ Lies w' q (bs r.c) ∧ ∀ b o, q = some ⟨b, o, none⟩ → W.heap.size ≤ b) ∧ Below W.heap.size W w' := fun v hv => by
      refine (cloneB ca r.c.length cc (bs r.c) v (by rw [bs_length]; omega) (bs_oneK _) H.out.2.2.2.2.2.1 ((H.out.2.2.2.2.1.below H.out.2.2.1 (Nat.le_refl _)).below hv (Nat.le_refl _))).mono ?_
      rintro e w' ⟨q, c', rfl, HH⟩
      exact ⟨q, c', rfl, ⟨HH.out.2.1, HH.out.2.2.1, fun b o e => Nat.le_trans hv.size (HH.out.1.lt b (by rw [e]; rfl)).1⟩, hv.trans (HH.out.2.2.2.mono hv.size)⟩
     have hIn : ∀ (v : World) (q : Option Addr) (c' : Nat), Below W.heap.size W v → Shut (r.c.length ≤ c' ∧ Lies v q (bs r.c) ∧ ∀ b o, q = some ⟨b, o, none⟩ → W.heap.size ≤ b) → Calls Tryz.prog 107 #[.pointer (some ⟨gp, 0, none⟩), .agg #[.int .i64 r.h.F, .int .i64 r.h.Q, .int .i64 r.h.T, .int .i64 r.h.L, .int .i64 r.h.B, .int .i64 r.h.K, .bool true, .slice q r.c.length c', .slice none 0 0, .int .i64 r.n, .int .i64 0, .int .i64 0, .int .i64 0, .slice none 0 0, .bool false, .bool false]] v fun e w' => ∃ a : Option Addr, e = .returned (.pointer a) ∧ Shut (∃ (L' : List MKp) (p' : Option Addr) (cp' : Nat), PlAt w' B gp me tm sq (insK l (placeOf l r.h) { kp0 r.h with own := true, c := r.c, sh := r.n }) L' p' cp' ∧ Below B w w') ∧ w'.heap[w.heap.size]? = some (.cells #[.int .i64 r.k, .int .i64 r.p, .int .i64 r.n, .int .i64 r.y, .int .i64 r.h.F, .int .i64 r.h.Q, .int .i64 r.h.T, .int .i64 r.h.L, .int .i64 r.h.B, .int .i64 r.h.K, .int .i64 r.id, .slice da r.d.length dc, .slice ca r.c.length cc] 40 (0, 0)) := fun v q c' hv hq => by
      have hPv := hPW.below hv
      have hBW : B ≤ W.heap.size := by have := hPW.lo; omega
      have hfar : ∀ b, b < W.heap.size → FarM b (MKp.mk { kp0 r.h with own := true, c := r.c, sh := r.n } q c' none 0 [] none 0) := fun b hb => ⟨fun _ a o e => by have := hq.out.2.2 a o e; omega, fun e => absurd rfl e, fun y hy => (by cases hy), fun e => absurd rfl e⟩
      have hnx : NewM v B (MKp.mk { kp0 r.h with own := true, c := r.c, sh := r.n } q c' none 0 [] none 0) := ⟨⟨hq.out.2.1, Lies.nil _ _, fun y hy => (by cases hy), rfl, Lies.nil _ _⟩, ⟨by have := H.out.2.2.2.2.2.1; show r.c.length ≤ maxLen; unfold maxLen; omega, Nat.zero_le _, Nat.zero_le _, hq.out.1, Nat.zero_le _, Nat.zero_le _⟩, fun b o e => Nat.le_trans hBW (hq.out.2.2 b o e), fun b o e => (by cases e), fun b o e => (by cases e), fun y hy => (by cases hy), ⟨World.ownsRow_nil _ _ _ _, World.ownsRow_nil _ _ _ _⟩, ⟨fun b o b' o' e => (by cases e), fun _ b o b' o' e => (by cases e), fun _ b o b' o' e => (by cases e), fun y hy => (by cases hy), fun y hy => (by cases hy)⟩⟩
      have hi := insertPl_any B gp me tm sq l L p cp (MKp.mk { kp0 r.h with own := true, c := r.c, sh := r.n } q c' none 0 [] none 0) v hPv (by rw [HN.out]; omega) hnx (fun b e => by rcases e with ⟨o, e⟩ | ⟨o, e⟩ <;> cases e) (fun b hb => hfar b (by
       rcases hb with rfl | ⟨o, hb⟩ | ⟨m, hm, hb⟩
       ·exact hlW
       ·exact (hPW.pl.own.lt b (by rw [hb]; rfl)).2
       ·exact ((hPW.pl.new m hm).1.grow_lt hb).2))
      refine hi.mono ?_
      rintro e w' ⟨g', c2, rfl, HH⟩
      have hbv : Below B w v := (H.out.2.2.1.mono H.out.2.2.2.1).trans (hv.mono (by omega))
      refine ⟨_, rfl, ⟨_, _, _, HH.out.1, hbv.trans HH.out.2.1⟩, ?_⟩
      have hkW := (Array.getElem?_eq_some_iff.1 H.out.2.1).1
      rw [HH.out.2.2 w.heap.size (by have := hv.size; omega) (by have := H.out.2.2.2.2.2.2.lt; omega) (fun o e => by have := (H.out.2.2.2.2.2.2.pl.own.lt w.heap.size (by rw [e]; rfl)).2; omega), hv.block _ hkW]
      exact H.out.2.1
     have HCl := Shut.mk hCl
     have HIn := Shut.mk hIn
     clear hCl hIn a0 a1 a2 a3 a4 a5 a6 a7 a8 a9 a10 a11 a12 b0 b1 b2 b3 l5
     obtain ⟨a0, a1, a2, a3, a4, a5, a6, a7, a8, a9, a10, a11, a12⟩ := rcBox (show W.drew.drew.drew.heap[w.heap.size]? = _ from H.out.2.1)
     go_region_held3 (fun w' => w'.cell? ⟨w.heap.size, 0, none⟩ = some (.int .i64 r.k) ∧ w'.cell? ⟨w.heap.size, 1, none⟩ = some (.int .i64 r.p) ∧ w'.cell? ⟨w.heap.size, 2, none⟩ = some (.int .i64 r.n) ∧ w'.cell? ⟨w.heap.size, 3, none⟩ = some (.int .i64 r.y) ∧ w'.cell? ⟨w.heap.size, 4, none⟩ = some (.int .i64 r.h.F) ∧ w'.cell? ⟨w.heap.size, 5, none⟩ = some (.int .i64 r.h.Q) ∧ w'.cell? ⟨w.heap.size, 6, none⟩ = some (.int .i64 r.h.T) ∧ w'.cell? ⟨w.heap.size, 7, none⟩ = some (.int .i64 r.h.L) ∧ w'.cell? ⟨w.heap.size, 8, none⟩ = some (.int .i64 r.h.B) ∧ w'.cell? ⟨w.heap.size, 9, none⟩ = some (.int .i64 r.h.K) ∧ w'.cell? ⟨w.heap.size, 10, none⟩ = some (.int .i64 r.id) ∧ w'.cell? ⟨w.heap.size, 11, none⟩ = some (.slice da r.d.length dc) ∧ w'.cell? ⟨w.heap.size, 12, none⟩ = some (.slice ca r.c.length cc)) (exact ⟨by with_reducible assumption, by with_reducible assumption, by with_reducible assumption, by with_reducible assumption, by with_reducible assumption, by with_reducible assumption, by with_reducible assumption, by with_reducible assumption, by with_reducible assumption, by with_reducible assumption, by with_reducible assumption, by with_reducible assumption, by with_reducible assumption⟩) ((first | (have hc0 := hcl; go_at_call 107; refine (HIn.out _ q c' hc0 hcq).mono ?_; rintro e w5 ⟨av, rfl, hL5, hk5⟩; obtain ⟨a0, a1, a2, a3, a4, a5, a6, a7, a8, a9, a10, a11, a12⟩ := rcBox hk5) | (go_at_call 103; refine (HCl.out _ ((Below.refl _ W).drew.drew.drew)).mono ?_; rintro e wk ⟨q, c', rfl, hcq, hcl⟩; obtain ⟨a0, a1, a2, a3, a4, a5, a6, a7, a8, a9, a10, a11, a12⟩ := rcBox (blkB H.out.2.1 hcl))))
     all_goals
      obtain ⟨L', p', cp', hP5, hB5⟩ := hL5.out
      have h5 := hP5.box
      clear a0 a1 a2 a3 a4 a5 a6 a7 a8 a9 a10 a11 a12 hL5 hk5 hcq hcl HCl HIn hPW hlW
      obtain ⟨b0, b1, b2, b3⟩ := plBox h5
      have f3 := frzB h5 3
      go_upto_region 11 with fail
      obtain ⟨V, hV, hbV, hoV, hBV⟩ := setK4d w5 gp 25 _ _ _ _ (.int .i64 (sq + 1)) h5
      have R : Shut (DoR B gp w 0 ⟨me, insK l (placeOf l r.h) { kp0 r.h with own := true, c := r.c, sh := r.n }, tm, sq + 1⟩ V) := ⟨hBV B w hP5.lo hB5, fun _ => ⟨L', p', cp', hP5.box' hbV hoV⟩⟩
      rw [hV]
      clear hV hbV hoV hBV b0 b1 b2 b3 f3 h5 hP5
      go_wp2
      go_ret
      rw [HR.out]
      exact ⟨rfl, R⟩

end Go.Proofs.YtakkajjoeimkdaaGreatDoor
