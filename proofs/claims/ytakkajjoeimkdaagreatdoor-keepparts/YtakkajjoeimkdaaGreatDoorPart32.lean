import Derived.Test.YtakkajjoeimkdaaGreatDoorPart31
import Derived.Deep.RegionLaw
namespace Go.Proofs.YtakkajjoeimkdaaGreatDoor
open Go.RowKit
set_option linter.unusedVariables false
set_option linter.unusedSimpArgs false

def wsV (l : List (List UInt8)) : List Value := l.map fun x => Value.string ⟨x.toArray⟩

theorem infoStr : (Tryz.prog.info? 9).map (fun i => (i.zero, i.size, i.bytes)) = some (some (.string ByteArray.empty), 1, 16) := by kernel_rfl

def Rc.printed (r : Rc) : List UInt8 := if r.code = 0 then r.text else []

theorem joinN_any (p : Option Addr) (cp : Nat) (l : List (List UInt8)) (w : World) (h0 : 0 < l.length) (hn : l.length ≤ 13) (hcap : l.length ≤ cp) (hlen : (Lib.join l [32]).length ≤ 1048576) (hl : Lies w p (wsV l)) :
  Calls Tryz.prog 81 #[.slice p l.length cp, .string ⟨#[32]⟩] w fun e w' => e = .returned (.string ⟨(Lib.join l [32]).toArray⟩) ∧ Below w.heap.size w w' := by
 obtain ⟨b, o, rfl⟩ := hl.some (k := 0) (by simpa [wsV] using h0)
 have e1 : (l.map fun x => (⟨x.toArray⟩ : ByteArray)).map (·.data.toList) = l := by
  rw [List.map_map]
  conv => rhs; rw [← List.map_id l]
  exact List.map_congr_left fun x _ => rfl
 have hbk : b < w.heap.size := by
  have := hl.lt rfl 0 (by simpa [wsV] using h0)
  rcases Nat.lt_or_ge b w.heap.size with h | h
  ·exact h
  ·simp [World.cell?, Array.getElem?_eq_none h] at this
 have h := Tryz.strings_Join b o cp (l.map fun x => (⟨x.toArray⟩ : ByteArray)) ⟨#[32]⟩ w (fun j x hx => by
  have hx' : (wsV l)[j]? = some (.string x) := by
   simp only [List.getElem?_map, wsV] at hx ⊢
   cases hj : l[j]? with
   | none => rw [hj] at hx; simp at hx
   | some y => rw [hj] at hx; simp at hx; subst hx; rfl
  exact hl.at hx') hbk (by simp; omega) (by simpa using hcap) (by rw [e1]; exact Nat.le_trans hlen (by decide))
 rw [e1] at h
 simpa using h

theorem step_two {ops : Array Oper} {o : Oper} {a : Act} {w : World} {K : Act → World → Prop} {Q : Exit → Act → World → Prop} {E : Prop} (hgd : o.guard = none) (s x : Operand)
  (ho : o.op = .call { callee := .builtin .append, args := #[s, x], argTypes := #[137, 137] }) (base : Nat) (v : Value) (n : Nat) (xs : List Value) (hs : a.eval s = v) (hown : w.ownsRow base 9 1 v n xs)
  (bk : Nat) (hx : a.eval x = .slice (some ⟨bk, 0, none⟩) 2 2) (x1 x2 : ByteArray) (h0 : w.cell? ⟨bk, 0, none⟩ = some (.string x1)) (h1 : w.cell? ⟨bk, 1, none⟩ = some (.string x2)) (hn : n ≤ 100) (hbase : base ≤ w.heap.size)
  (h : ∀ v' w', w'.ownsRow base 9 1 v' (n + 2) (xs ++ [.string x1, .string x2]) → w.grownBy w' v.ownBlock → K (a.put o.dst v') w') :
  if Region.wanted o (yielded ops a.tmps) = true then Oper.wp Tryz.prog o a w K Q else E := by
 obtain ⟨i0, hii, hz0, hz1, hz2⟩ := info_parts infoStr
 rw [if_pos (by simp [Region.wanted, hgd])]
 refine wp_append_own w s x 137 ho base 9 i0 (.string ByteArray.empty) 1 16 Tryz.underlying137 hii hz0 hz1 hz2 rfl (by decide) v n xs hs hown ⟨bk, 0, none⟩ 2 2 [.string x1, .string x2] hx rfl ?_ ?_ (by unfold maxLen; omega) (by omega) hbase (fun v' w' h2 h3 _ => h v' w' h2 h3)
 ·intro j u hj
  match j, hj with
  | 0, hj => simp at hj; subst hj; simpa [Addr.add] using h0
  | 1, hj => simp at hj; subst hj; simpa [Addr.add] using h1
 ·intro u hu
  simp at hu
  rcases hu with rfl | rfl <;> rfl

theorem entersHex : ∀ args w, (callFunc 80 args).run Tryz.prog w = .ok (.enter 80 args) w := enters_of Tryz.func80 (by kernel_rfl) rfl

theorem step_hex {ops : Array Oper} {o : Oper} {a : Act} {w : World} {K : Act → World → Prop} {Q : Exit → Act → World → Prop} {E : Prop} {R : World → Prop} (hgd : o.guard = none) (arg : Operand)
  (ho : o.op = .call { callee := .value (.func 80), args := #[arg], argTypes := #[35] }) (v x : Value) (hv : a.eval arg = v)
  (hc : Calls Tryz.prog 80 #[v] w fun e w' => e = .returned x ∧ R w') (h : ∀ w', R w' → K (a.put o.dst x) w') :
  if Region.wanted o (yielded ops a.tmps) = true then Oper.wp Tryz.prog o a w K Q else E := by
 rw [if_pos (by simp [Region.wanted, hgd])]
 have eg := entersHex
 have hrun : (execOp a.eval o).run Tryz.prog w = .ok (.enter 80 #[v]) w := by
  have hf : a.eval (.func 80) = .func (.func 80) #[] #[] := rfl
  simp [execOp, ho, resolve, hf, eg, go_sem, invoke]
  cases arg <;> simpa [Act.eval] using hv
 unfold Oper.wp
 rw [hrun, Oper.upon_enter]
 refine hc.mono ?_
 rintro e w' ⟨rfl, hr⟩
 exact h w' hr

theorem cellNew (w : World) (cs : Array Value) (T : TypeId) (j : Nat) (v : Value) (h : cs[j]? = some v) : (w.alloc (.cells cs T)).cell? ⟨w.heap.size, j, none⟩ = some v :=
 cellB (f := (0, 0)) (by rw [heap_alloc_eq, if_pos rfl]) j v h

theorem two_rel {W w7 : World} {v7 : Value} {wl : List (List UInt8)} {a b : List UInt8} (ho : w7.ownsRow W.heap.size 9 1 v7 (11 + 2) (wsV wl ++ [.string ⟨a.toArray⟩, .string ⟨b.toArray⟩])) (hB : Below W.heap.size W w7) :
  Shut (∃ (p : Option Addr) (cp : Nat), v7 = .slice p 13 cp ∧ 13 ≤ cp ∧ Lies w7 p (wsV (wl ++ [a, b])) ∧ Below W.heap.size W w7) := by
 obtain ⟨p, q, rfl, hpq⟩ := own_slice ho
 obtain ⟨p', q', e, hl, _⟩ := own_lies ho
 injection e with e1 e2 e3
 subst e1
 exact ⟨p, q, rfl, hpq, by rw [wsV, List.map_append]; exact hl, hB⟩

def PrInv (W wr : World) (v : Value) (r : Rc) (q : Nat) : Prop :=
 wr.ownsRow W.heap.size 9 1 v q (wsV ((r.nums.map Lib.itoa).take q)) ∧ Below W.heap.size W wr

theorem PrInv.next {W wr w3 w4 : World} {v v' : Value} {r : Rc} {q : Nat} {x : Int} (o : Obj) (hI : PrInv W wr v r q) (hq : r.nums[q]? = some x) (hb3 : Below wr.heap.size wr w3)
  (ho : w4.ownsRow W.heap.size 9 1 v' (q + 1) (wsV ((r.nums.map Lib.itoa).take q) ++ [.string ⟨(Lib.itoa x).toArray⟩])) (hg : (w3.alloc o).grownBy w4 v.ownBlock) : PrInv W w4 v' r (q + 1) := by
 refine ⟨?_, ?_⟩
 ·have e : (r.nums.map Lib.itoa).take (q + 1) = (r.nums.map Lib.itoa).take q ++ [Lib.itoa x] := by
   rw [List.take_add_one, List.getElem?_map, hq]; rfl
  rw [e, wsV, List.map_append]
  exact ho
 ·have h3 := hI.2.trans (hb3.mono hI.2.size)
  refine (h3.alloc h3.size o).grown hg (by have := h3.size; simp; omega) ?_
  intro g hg'
  exact (hI.1.lt g hg').1

theorem idx11 (l : List Int) (hl : l.length = 11) (q : Nat) (x : Int) (hq : l[q]? = some x) (W : World) : (Instr.index 138 (.agg (ns l).toArray) (.int .i64 (q : Int))).run Tryz.prog W = .ok (.int .i64 x) W := by
 match l, hl with
 | [n0, n1, n2, n3, n4, n5, n6, n7, n8, n9, n10], _ =>
  have k0 : (Instr.index 138 (.agg #[.int .i64 n0, .int .i64 n1, .int .i64 n2, .int .i64 n3, .int .i64 n4, .int .i64 n5, .int .i64 n6, .int .i64 n7, .int .i64 n8, .int .i64 n9, .int .i64 n10]) (.int .i64 0)).run Tryz.prog W = .ok (.int .i64 n0) W := by kernel_rfl
  have k1 : (Instr.index 138 (.agg #[.int .i64 n0, .int .i64 n1, .int .i64 n2, .int .i64 n3, .int .i64 n4, .int .i64 n5, .int .i64 n6, .int .i64 n7, .int .i64 n8, .int .i64 n9, .int .i64 n10]) (.int .i64 1)).run Tryz.prog W = .ok (.int .i64 n1) W := by kernel_rfl
  have k2 : (Instr.index 138 (.agg #[.int .i64 n0, .int .i64 n1, .int .i64 n2, .int .i64 n3, .int .i64 n4, .int .i64 n5, .int .i64 n6, .int .i64 n7, .int .i64 n8, .int .i64 n9, .int .i64 n10]) (.int .i64 2)).run Tryz.prog W = .ok (.int .i64 n2) W := by kernel_rfl
  have k3 : (Instr.index 138 (.agg #[.int .i64 n0, .int .i64 n1, .int .i64 n2, .int .i64 n3, .int .i64 n4, .int .i64 n5, .int .i64 n6, .int .i64 n7, .int .i64 n8, .int .i64 n9, .int .i64 n10]) (.int .i64 3)).run Tryz.prog W = .ok (.int .i64 n3) W := by kernel_rfl
  have k4 : (Instr.index 138 (.agg #[.int .i64 n0, .int .i64 n1, .int .i64 n2, .int .i64 n3, .int .i64 n4, .int .i64 n5, .int .i64 n6, .int .i64 n7, .int .i64 n8, .int .i64 n9, .int .i64 n10]) (.int .i64 4)).run Tryz.prog W = .ok (.int .i64 n4) W := by kernel_rfl
  have k5 : (Instr.index 138 (.agg #[.int .i64 n0, .int .i64 n1, .int .i64 n2, .int .i64 n3, .int .i64 n4, .int .i64 n5, .int .i64 n6, .int .i64 n7, .int .i64 n8, .int .i64 n9, .int .i64 n10]) (.int .i64 5)).run Tryz.prog W = .ok (.int .i64 n5) W := by kernel_rfl
  have k6 : (Instr.index 138 (.agg #[.int .i64 n0, .int .i64 n1, .int .i64 n2, .int .i64 n3, .int .i64 n4, .int .i64 n5, .int .i64 n6, .int .i64 n7, .int .i64 n8, .int .i64 n9, .int .i64 n10]) (.int .i64 6)).run Tryz.prog W = .ok (.int .i64 n6) W := by kernel_rfl
  have k7 : (Instr.index 138 (.agg #[.int .i64 n0, .int .i64 n1, .int .i64 n2, .int .i64 n3, .int .i64 n4, .int .i64 n5, .int .i64 n6, .int .i64 n7, .int .i64 n8, .int .i64 n9, .int .i64 n10]) (.int .i64 7)).run Tryz.prog W = .ok (.int .i64 n7) W := by kernel_rfl
  have k8 : (Instr.index 138 (.agg #[.int .i64 n0, .int .i64 n1, .int .i64 n2, .int .i64 n3, .int .i64 n4, .int .i64 n5, .int .i64 n6, .int .i64 n7, .int .i64 n8, .int .i64 n9, .int .i64 n10]) (.int .i64 8)).run Tryz.prog W = .ok (.int .i64 n8) W := by kernel_rfl
  have k9 : (Instr.index 138 (.agg #[.int .i64 n0, .int .i64 n1, .int .i64 n2, .int .i64 n3, .int .i64 n4, .int .i64 n5, .int .i64 n6, .int .i64 n7, .int .i64 n8, .int .i64 n9, .int .i64 n10]) (.int .i64 9)).run Tryz.prog W = .ok (.int .i64 n9) W := by kernel_rfl
  have k10 : (Instr.index 138 (.agg #[.int .i64 n0, .int .i64 n1, .int .i64 n2, .int .i64 n3, .int .i64 n4, .int .i64 n5, .int .i64 n6, .int .i64 n7, .int .i64 n8, .int .i64 n9, .int .i64 n10]) (.int .i64 10)).run Tryz.prog W = .ok (.int .i64 n10) W := by kernel_rfl
  match q, hq with
  | 0, hq => simp only [List.getElem?_cons_succ, List.getElem?_cons_zero, Option.some.injEq] at hq; subst hq; exact k0
  | 1, hq => simp only [List.getElem?_cons_succ, List.getElem?_cons_zero, Option.some.injEq] at hq; subst hq; exact k1
  | 2, hq => simp only [List.getElem?_cons_succ, List.getElem?_cons_zero, Option.some.injEq] at hq; subst hq; exact k2
  | 3, hq => simp only [List.getElem?_cons_succ, List.getElem?_cons_zero, Option.some.injEq] at hq; subst hq; exact k3
  | 4, hq => simp only [List.getElem?_cons_succ, List.getElem?_cons_zero, Option.some.injEq] at hq; subst hq; exact k4
  | 5, hq => simp only [List.getElem?_cons_succ, List.getElem?_cons_zero, Option.some.injEq] at hq; subst hq; exact k5
  | 6, hq => simp only [List.getElem?_cons_succ, List.getElem?_cons_zero, Option.some.injEq] at hq; subst hq; exact k6
  | 7, hq => simp only [List.getElem?_cons_succ, List.getElem?_cons_zero, Option.some.injEq] at hq; subst hq; exact k7
  | 8, hq => simp only [List.getElem?_cons_succ, List.getElem?_cons_zero, Option.some.injEq] at hq; subst hq; exact k8
  | 9, hq => simp only [List.getElem?_cons_succ, List.getElem?_cons_zero, Option.some.injEq] at hq; subst hq; exact k9
  | 10, hq => simp only [List.getElem?_cons_succ, List.getElem?_cons_zero, Option.some.injEq] at hq; subst hq; exact k10
  | q + 11, hq => simp at hq

theorem Rc.nums_len (r : Rc) : r.nums.length = 11 := rfl

set_option maxHeartbeats 600000 in
set_option maxRecDepth 8000 in
theorem print_any (r : Rc) (da : Option Addr) (dc : Nat) (ca : Option Addr) (cc : Nat) (w : World) (hi : r.ints) (ld : r.d.length ≤ maxLen) (hd : Lies w da (bs r.d)) (hc : Lies w ca (bs r.c)) (hL : LaidN w) :
  Calls Tryz.prog 38 #[rcV r da dc ca cc] w fun e w' => e = .returned (.tuple #[.string ⟨r.printed.toArray⟩, .int .i64 r.code]) ∧ Below w.heap.size w w' := by
 obtain ⟨W, hW⟩ : ∃ W, w.alloc (.cells #[.int .i64 r.k, .int .i64 r.p, .int .i64 r.n, .int .i64 r.y, .int .i64 r.h.F, .int .i64 r.h.Q, .int .i64 r.h.T, .int .i64 r.h.L, .int .i64 r.h.B, .int .i64 r.h.K, .int .i64 r.id, .slice da r.d.length dc, .slice ca r.c.length cc] 40) = W := ⟨_, rfl⟩
 have hBW : Below w.heap.size w W := by rw [← hW]; exact (Below.refl _ _).alloc (Nat.le_refl _) _
 have hbW : W.heap[w.heap.size]? = some (.cells #[.int .i64 r.k, .int .i64 r.p, .int .i64 r.n, .int .i64 r.y, .int .i64 r.h.F, .int .i64 r.h.Q, .int .i64 r.h.T, .int .i64 r.h.L, .int .i64 r.h.B, .int .i64 r.h.K, .int .i64 r.id, .slice da r.d.length dc, .slice ca r.c.length cc] 40 (0, 0)) := by rw [← hW, heap_alloc_eq, if_pos rfl]
 have hC := noteCheck_any r da dc ca cc W hi ld
 have hN := numbersOf_any r da dc ca cc
 simp only [rcV] at hC hN ⊢
 obtain ⟨q0, q1, q2, q3, q4, q5, q6, q7, q8, q9, q10, q11, q12⟩ := bx13 hbW
 by_cases hz : r.code = 0
 case neg =>
  have hp : r.printed = [] := if_neg hz
  rw [hp]
  have bz : (r.code != 0) = true := by simpa using hz
  generalize r.code = z at bz hC hz ⊢
  clear hz
  go_enter Tryz.func38, Tryz.ntmps38
  go_wp2_with fail
  refine hC.mono ?_
  rintro e W1 ⟨rfl, hb1⟩
  have hF := hBW.trans (hb1.mono hBW.size)
  clear hC hb1
  go_wp2
  go_ret2
  exact ⟨rfl, hF⟩
 have hp : r.printed = r.text := if_pos hz
 obtain ⟨sd, sc⟩ := code_short hz
 have ht := text_short hi hz
 rw [hp, hz]
 rw [hz] at hC
 have HT := Shut.mk ht
 clear ht hp hz
 obtain ⟨i0, hii, hz0, hz1, hz2⟩ := info_parts infoStr
 go_enter Tryz.func38, Tryz.ntmps38
 go_wp2_with fail
 refine hC.mono ?_
 rintro e W1 ⟨rfl, hb1⟩
 clear hC
 have hb1s := hb1.size
 go_wp2_with (first | (refine wpList_make_own _ rfl _ _ 137 rfl W.heap.size 9 i0 (.string ByteArray.empty) 1 Tryz.underlying137 hii hz0 hz1 .i64 .i64 13 13 rfl rfl rfl (by rw [hz2]; decide) (by decide) hb1s ?_) | fail)
 intro W2 hown hg2
 have hb2 : Below W1.heap.size W1 W2 := (Below.refl _ _).grown hg2 (Nat.le_refl _) (fun g hg' => by cases hg')
 have hB2 : Below W.heap.size W W2 := hb1.trans (hb2.mono hb1.size)
 have H0 : Shut (PrInv W W2 (.slice (some ⟨W1.heap.size, 0, none⟩) 0 13) r 0) := ⟨by simpa [wsV] using hown, hB2⟩
 have hbk := blkB hbW hB2
 obtain ⟨s0, s1, s2, s3, s4, s5, s6, s7, s8, s9, s10, s11, s12⟩ := bx13 hbk
 have hN2 := hN W2
 clear q0 q1 q2 q3 q4 q5 q6 q7 q8 q9 q10 q11 q12 hN hg2 hb2 hown hb1 hb1s hW
 go_wp2_with fail
 refine hN2.mono ?_
 rintro e W3 ⟨rfl, hb3⟩
 have H3 : Shut (PrInv W W3 (.slice (some ⟨W1.heap.size, 0, none⟩) 0 13) r 0) := ⟨ownB H0.out.1 hb3, hB2.trans (hb3.mono hB2.size)⟩
 clear s0 s1 s2 s3 s4 s5 s6 s7 s8 s9 s10 s11 s12 hN2 H0 hB2 hb3 hbk
 generalize hA : (ns r.nums).toArray = A
 go_wp2_with fail
 go_loopw [5, 16] (fun v m wr => ∃ q : Nat, q ≤ 11 ∧ m = .int .i64 q ∧ Shut (PrInv W wr v r q)) (fun _ m _ => 11 - (intOf m).toNat)
 case atStart => exact ⟨0, Nat.zero_le _, rfl, H3⟩
 case round =>
  clear H3
  obtain ⟨q, hq, rfl, hI⟩ := hrel
  by_cases hlt : q < 11
  ·obtain ⟨x, hx⟩ : ∃ x, r.nums[q]? = some x := ⟨r.nums[q]'(by rw [Rc.nums_len]; exact hlt), List.getElem?_eq_getElem _⟩
   have hix : ∀ W', (Instr.index 138 (.agg A) (.int .i64 (q : Int))).run Tryz.prog W' = .ok (.int .i64 x) W' := fun W' => by rw [← hA]; exact idx11 r.nums (Rc.nums_len r) q x hx W'
   have hI64 : I64 x := Rc.ints_nums hi x (List.mem_of_getElem? hx)
   have hT := itoa_any x wr hI64 ((hL.below hBW).below hI.out.2)
   have HX := Shut.mk hx
   clear hx
   go_wp2_with fail
   refine hT.mono ?_
   rintro e w3 ⟨rfl, hb3⟩
   have hown := ownB hI.out.1 hb3
   have hsz : W.heap.size ≤ w3.heap.size := Nat.le_trans hI.out.2.size hb3.size
   clear hT
   go_wp2_with (first | (at_builtin; refine wpList_append_own _ rfl _ _ 137 rfl W.heap.size 9 i0 (.string ByteArray.empty) 1 16 Tryz.underlying137 hii hz0 hz1 hz2 rfl (by decide) _ _ _ rfl (hown.alloc _) ⟨w3.heap.size, 0, none⟩ 1 1 [.string ⟨(Lib.itoa x).toArray⟩] rfl rfl ?c1 ?c2 ?c3 ?c4 ?c5 ?_) | fail)
   case c1 =>
    intro j u hj
    match j, hj with
    | 0, hj => simp at hj; subst hj; simp [Addr.add]
   case c2 => intro u hu; simp at hu; subst hu; rfl
   case c3 => unfold maxLen; omega
   case c4 => omega
   case c5 => simp; omega
   intro v' w4 hown' hgrow _
   have R := Shut.mk (hI.out.next _ HX.out hb3 hown' hgrow)
   clear hown' hgrow hown hsz hI hb3
   go_wp2
   exact ⟨⟨q + 1, by omega, by go_num, R⟩, by simp [intOf]; omega⟩
  ·obtain rfl : q = 11 := by omega
   have hbr := hI.out.2
   have hbk := blkB hbW hbr
   have c11 : wr.cell? ⟨w.heap.size, 11, none⟩ = some (.slice da r.d.length dc) := cellB hbk 11 _ rfl
   have c12 : wr.cell? ⟨w.heap.size, 12, none⟩ = some (.slice ca r.c.length cc) := cellB hbk 12 _ rfl
   have d11 : wr.drew.cell? ⟨w.heap.size, 11, none⟩ = some (.slice da r.d.length dc) := c11
   have d12 : wr.drew.cell? ⟨w.heap.size, 12, none⟩ = some (.slice ca r.c.length cc) := c12
   have B0 : Below wr.heap.size wr wr := Below.refl _ _
   have B1 : Below wr.heap.size wr wr.drew := bdn wr 1 _
   have hbw : Below w.heap.size w wr := hBW.trans (hbr.mono hBW.size)
   have hexD : ∀ W', Below wr.heap.size wr W' → Calls Tryz.prog 80 #[.slice da r.d.length dc] W' fun e w2 => e = .returned (.string ⟨(hexW r.d).toArray⟩) ∧ Below wr.heap.size wr w2 ∧ w2.cell? ⟨w.heap.size, 11, none⟩ = some (.slice da r.d.length dc) ∧ w2.cell? ⟨w.heap.size, 12, none⟩ = some (.slice ca r.c.length cc) := by
    intro W' hW'
    refine (hexOf_any da dc r.d W' (by omega) ((hd.below hbw (Nat.le_refl _)).below hW' (Nat.le_refl _))).mono ?_
    rintro e w2 ⟨rfl, hb⟩
    have := hW'.trans (hb.mono hW'.size)
    exact ⟨rfl, this, cellW c11 this, cellW c12 this⟩
   have hexC : ∀ W', Below wr.heap.size wr W' → Calls Tryz.prog 80 #[.slice ca r.c.length cc] W' fun e w2 => e = .returned (.string ⟨(hexW r.c).toArray⟩) ∧ Below wr.heap.size wr w2 ∧ w2.cell? ⟨w.heap.size, 11, none⟩ = some (.slice da r.d.length dc) ∧ w2.cell? ⟨w.heap.size, 12, none⟩ = some (.slice ca r.c.length cc) := by
    intro W' hW'
    refine (hexOf_any ca cc r.c W' (by omega) ((hc.below hbw (Nat.le_refl _)).below hW' (Nat.le_refl _))).mono ?_
    rintro e w2 ⟨rfl, hb⟩
    have := hW'.trans (hb.mono hW'.size)
    exact ⟨rfl, this, cellW c11 this, cellW c12 this⟩
   have hJ := hI.out.1
   have hWs := hbr.size
   have HB := Shut.mk hbw
   have HT2 := HT
   rw [Rc.text, Rc.words] at HT2
   generalize hTX : r.text = TX
   have HTX : Shut (TX = Lib.join ((r.nums.map Lib.itoa).take 11 ++ [hexW r.d, hexW r.c]) [32]) := ⟨by rw [← hTX]; rfl⟩
   generalize hwl : (r.nums.map Lib.itoa).take 11 = wl at hJ HTX
   have HWL : Shut (wl.length = 11) := ⟨by rw [← hwl]; rfl⟩
   have HTL : Shut (TX.length ≤ 60000) := ⟨by rw [← hTX]; exact HT.out⟩
   generalize hexW r.d = hx1 at hexD HTX
   generalize hexW r.c = hx2 at hexC HTX
   have HBR := Shut.mk hbr
   have HTXE : Shut (TX = r.text) := ⟨hTX.symm⟩
   clear HT HT2 hTX hwl hI hbw hbr hbk
   generalize r.d.length = dn at *
   generalize r.c.length = cn at *
   have e11 : W.cell? ⟨w.heap.size, 11, none⟩ = some (.slice da dn dc) := cellB hbW 11 _ rfl
   have e12 : W.cell? ⟨w.heap.size, 12, none⟩ = some (.slice ca cn cc) := cellB hbW 12 _ rfl
   clear hd hc hi hL hbW hA
   obtain ⟨p5, q5, rfl, hq5⟩ := own_slice hJ
   go_upto_region 10 with fail
   go_cut [5] from 25 to 34 (fun s5 wc => Shut (∃ (p : Option Addr) (cp : Nat), s5 = .slice p 13 cp ∧ 13 ≤ cp ∧ Lies wc p (wsV (wl ++ [hx1, hx2])) ∧ Below W.heap.size W wc))
   case first =>
    clear HTX HTL HB hBW
    have hbr := HBR.out
    clear HBR
    go_region_law (first | (refine step_two rfl (.tmp 25) (.tmp 33) rfl W.heap.size (.slice p5 11 q5) 11 (wsV wl) (by simp [Act.eval, Act.put]) ((ownB hJ b6).alloc _) _ (by simp [Act.eval, Act.put]) ⟨hx1.toArray⟩ ⟨hx2.toArray⟩ (cellNew _ _ _ 0 _ rfl) (cellNew _ _ _ 1 _ rfl) (by decide) (by have := b6.size; simp; omega) ?_; intro v7 w7 ho7 hg7; have hb6 := hbr.trans (b6.mono hbr.size); have hB7 : Below W.heap.size W w7 := (hb6.alloc hb6.size _).grown hg7 (by have := hb6.size; simp; omega) (fun g hg' => ((ownB hJ b6).lt g hg').1)) | (refine step_hex rfl (.tmp 28) rfl (.slice da dn dc) _ (by simp [Act.eval, Act.put]) (hexD _ (by assumption)) ?_; rintro w5 ⟨b5, x5, y5⟩) | (refine step_hex rfl (.tmp 31) rfl (.slice ca cn cc) _ (by simp [Act.eval, Act.put]) (hexC _ (by assumption)) ?_; rintro w6 ⟨b6, x6, y6⟩))
    all_goals
     have R := two_rel ho7 hB7
     clear ho7 hg7 hB7 hb6
     go_wp2_with fail
     go_meet
     exact R
   case rest =>
    obtain ⟨p, cp, rfl, hcp, hlp, hB7⟩ := hcut.out
    have hJn := joinN_any p cp (wl ++ [hx1, hx2]) _ (by simp) (by rw [List.length_append, HWL.out]; exact Nat.le_refl 13) (by rw [List.length_append, HWL.out]; exact hcp) (by rw [← HTX.out]; have := HTL.out; omega) hlp
    rw [← HTX.out, List.length_append, HWL.out] at hJn
    have hF := hBW.trans (hB7.mono hBW.size)
    clear hcut hlp hB7
    go_wp2_with fail
    refine hJn.mono ?_
    rintro e w8 ⟨rfl, hb8⟩
    replace hF := hF.trans (hb8.mono hF.size)
    clear hJn hb8
    go_wp2
    go_ret2
    exact ⟨by rw [← HTXE.out]; rfl, hF⟩

end Go.Proofs.YtakkajjoeimkdaaGreatDoor
