import Derived.Test.YtakkajjoeimkdaaGreatDoorPart24
import Derived.Lib.SliceRun
namespace Go.Proofs.YtakkajjoeimkdaaGreatDoor
open Go.RowKit
set_option linter.unusedVariables false
set_option linter.unusedSimpArgs false
attribute [local go_sem ↓] Go.wp_at_zero Go.wp_at_succ

set_option maxHeartbeats 2000000 in
set_option maxRecDepth 4000 in
theorem indexTick (p : Option Addr) (cp : Nat) (l : List MKp) (t : Int) (g : Nat) (w : World) (hl : Lies w p (kpCells l)) (hm : l.length ≤ maxLen) (hg : w.cell? ⟨g, 0, none⟩ = some (.int .i64 t)) :
  Calls Tryz.prog 57 #[.slice p l.length cp, .func (.func 109) #[] #[.pointer (some ⟨g, 0, none⟩)]] w fun e w' => e = .returned (.int .i64 (idxP (fun Y : MKp => decide (Y.k.h.L ≤ t)) l)) ∧ Below w.heap.size w w' := by
 have eg := entersTick1
 obtain ⟨D, hD⟩ : ∃ D : MKp → Bool, (fun Y : MKp => decide (Y.k.h.L ≤ t)) = D := ⟨_, rfl⟩
 rw [hD]
 obtain ⟨n, hn⟩ : ∃ n, l.length = n := ⟨_, rfl⟩
 have HX := Shut.mk (And.intro hn (And.intro hl (And.intro hD hg)))
 rw [hn] at hm ⊢
 unfold maxLen at hm
 clear hl hn hD hg
 go_enter Tryz.func57, Tryz.ntmps57
 go_wp2
 go_loopw [8] (fun i wr => ∃ q : Nat, q ≤ n ∧ i = .int .i64 q ∧ Shut (Below w.heap.size w wr ∧ ∀ j (hj : j < l.length), j < q → D l[j] = false)) (fun i _ => n - (intOf i).toNat)
 case atStart => exact ⟨0, Nat.zero_le _, rfl, ⟨Below.refl _ _, fun j _ hj => by omega⟩⟩
 case round =>
  obtain ⟨q, hq, rfl, HN⟩ := hrel
  by_cases hlt : q < n
  ·have hqN : q < l.length := by rw [HX.out.1]; exact hlt
   have hbr := HN.out.1
   have hlr := HX.out.2.1.below hbr (Nat.le_refl _)
   obtain ⟨b1, o1, rfl⟩ := hlr.some (k := 16 * q) (by rw [kpCells_length]; omega)
   have h1 : Lies wr (some ⟨b1, o1, none⟩) (kpCells l) ∧ l[q]? = some l[q] := ⟨hlr, List.getElem?_eq_getElem hqN⟩
   have hV : D l[q] = decide (l[q].k.h.L ≤ t) := by rw [← HX.out.2.2.1]
   have HT : Shut (D l[q] = true → idxP D l = q) := ⟨fun h => idxP_at hqN h fun j hj => HN.out.2 j (by omega) hj⟩
   have HF : Shut (D l[q] = false → ∀ j (hj : j < l.length), j < q + 1 → D l[j] = false) := ⟨fun h j hj hjq => by
    by_cases e : j = q
    ·subst e; exact h
    ·exact HN.out.2 j hj (by omega)⟩
   have hC := tick1_any l[q] t g wr (cellW HX.out.2.2.2 hbr)
   rw [← hV] at hC
   generalize D l[q] = b at *
   generalize l[q] = Y at *
   have t0 : wr.cell? ⟨b1, o1 + q * 16, none⟩ = some (.int .i64 Y.k.h.F) := kp_cell h1 0 rfl
   have t1 : wr.cell? ⟨b1, o1 + q * 16 + 1, none⟩ = some (.int .i64 Y.k.h.Q) := kp_cell h1 1 rfl
   have t2 : wr.cell? ⟨b1, o1 + q * 16 + 2, none⟩ = some (.int .i64 Y.k.h.T) := kp_cell h1 2 rfl
   have t3 : wr.cell? ⟨b1, o1 + q * 16 + 3, none⟩ = some (.int .i64 Y.k.h.L) := kp_cell h1 3 rfl
   have t4 : wr.cell? ⟨b1, o1 + q * 16 + 4, none⟩ = some (.int .i64 Y.k.h.B) := kp_cell h1 4 rfl
   have t5 : wr.cell? ⟨b1, o1 + q * 16 + 5, none⟩ = some (.int .i64 Y.k.h.K) := kp_cell h1 5 rfl
   have t6 : wr.cell? ⟨b1, o1 + q * 16 + 6, none⟩ = some (.bool Y.k.own) := kp_cell h1 6 rfl
   have t7 : wr.cell? ⟨b1, o1 + q * 16 + 7, none⟩ = some (.slice Y.ca Y.k.c.length Y.cc) := kp_cell h1 7 rfl
   have t8 : wr.cell? ⟨b1, o1 + q * 16 + 8, none⟩ = some (.slice Y.ya Y.ys.length Y.yc) := kp_cell h1 8 rfl
   have t9 : wr.cell? ⟨b1, o1 + q * 16 + 9, none⟩ = some (.int .i64 Y.k.sh) := kp_cell h1 9 rfl
   have t10 : wr.cell? ⟨b1, o1 + q * 16 + 10, none⟩ = some (.int .i64 Y.k.gv) := kp_cell h1 10 rfl
   have t11 : wr.cell? ⟨b1, o1 + q * 16 + 11, none⟩ = some (.int .i64 Y.k.tw) := kp_cell h1 11 rfl
   have t12 : wr.cell? ⟨b1, o1 + q * 16 + 12, none⟩ = some (.int .i64 Y.k.tr) := kp_cell h1 12 rfl
   have t13 : wr.cell? ⟨b1, o1 + q * 16 + 13, none⟩ = some (.slice Y.ta Y.k.tk.length Y.tc) := kp_cell h1 13 rfl
   have t14 : wr.cell? ⟨b1, o1 + q * 16 + 14, none⟩ = some (.bool Y.k.dl) := kp_cell h1 14 rfl
   have t15 : wr.cell? ⟨b1, o1 + q * 16 + 15, none⟩ = some (.bool Y.k.pg) := kp_cell h1 15 rfl
   clear HN hV hlr h1
   go_wp2_with fail
   refine hC.mono ?_
   rintro e w2 ⟨rfl, hb⟩
   have hB2 := hbr.trans (hb.mono hbr.size)
   clear hC hb t0 t1 t2 t3 t4 t5 t6 t7 t8 t9 t10 t11 t12 t13 t14 t15
   cases b
   ·have HN2 := Shut.mk (And.intro hB2 (HF.out rfl))
    clear HF HT hB2
    go_wp2
    go_roundw
    case rel => exact ⟨q + 1, by omega, by go_num, HN2⟩
    case measure => simp [intOf]; omega
   ·have HR := Shut.mk (HT.out rfl)
    clear HF HT
    go_wp2
    go_ret
    exact ⟨ret_int HR.out.symm, hB2⟩
  ·have HR : Shut (idxP D l = -1) := ⟨idxP_none fun j hj => HN.out.2 j hj (by have := HX.out.1; omega)⟩
   have hbr := HN.out.1
   clear HN
   go_wp2
   go_ret
   exact ⟨ret_int HR.out.symm, hbr⟩

def keptK (D : MKp → Bool) (N : List MKp) (j : Nat) : List MKp := (N.take j).filter fun x => !D x

theorem keptK_succ {D : MKp → Bool} {N : List MKp} {j : Nat} {x : MKp} (hj : N[j]? = some x) : keptK D N (j + 1) = if D x = true then keptK D N j else keptK D N j ++ [x] := by
 unfold keptK
 rw [List.take_add_one, hj, Option.toList_some, List.filter_append]
 by_cases h : D x = true
 ·rw [if_pos h]; simp [h]
 ·rw [if_neg h]; simp [h]

def DelK (B : Nat) (w wr : World) (g z cp : Nat) (N : List MKp) (D : MKp → Bool) (i j : Nat) : Prop :=
 ∃ F : List MKp, wr.ownsRow B 88 16 (.slice (some ⟨g, 0, none⟩) z cp) z (kpCells F) ∧ F.take i = keptK D N j ∧ F.drop j = N.drop j ∧ (keptK D N j).length = i ∧ i < j ∧ w.grownBy wr (some g)

theorem DelK.del {B : Nat} {w wr w2 : World} {g z cp i j : Nat} {N : List MKp} {D : MKp → Bool} {x : MKp} (h : DelK B w wr g z cp N D i j) (hx : N[j]? = some x) (hd : D x = true) (hb : Below wr.heap.size wr w2) : DelK B w w2 g z cp N D i (j + 1) := by
 obtain ⟨F, h1, h2, h3, h4, h5, h6⟩ := h
 have e := keptK_succ (D := D) hx
 rw [if_pos hd] at e
 refine ⟨F, ownB h1 hb, by rw [e]; exact h2, ?_, by rw [e]; exact h4, by omega, grown_trans h6 (grown_of _ hb)⟩
 have := congrArg (List.drop 1) h3
 simpa [List.drop_drop] using this

theorem DelK.keep {B : Nat} {w wr w2 : World} {g z cp i j : Nat} {N : List MKp} {D : MKp → Bool} {x : MKp} (h : DelK B w wr g z cp N D i j) (hx : N[j]? = some x) (hd : D x = false) (hb : Below wr.heap.size wr w2) (hz : j < z) : DelK B w (w2.setCells g (i * 16) x.cells) g z cp N D (i + 1) (j + 1) := by
 obtain ⟨F, h1, h2, h3, h4, h5, h6⟩ := h
 have e := keptK_succ (D := D) hx
 rw [if_neg (by simp [hd])] at e
 have hF : F.length = z := by have := h1.1; rw [kpCells_length] at this; omega
 refine ⟨F.set i x, ?_, ?_, ?_, ?_, by omega, grown_setRun g _ _ _ _ (grown_trans h6 (grown_of _ hb))⟩
 ·rw [kpCells_set F i x (by omega), Nat.mul_comm 16 i]
  exact own_setRun (ownB h1 hb) x.cells (i * 16) (by show i * 16 + 16 ≤ z * 16; omega)
 ·rw [e, List.set_eq_take_append_cons_drop, if_pos (by omega), ← h2, List.take_append, List.length_take, Nat.min_eq_left (by omega), List.take_of_length_le (by rw [List.length_take]; omega), show i + 1 - i = 1 by omega]
  rfl
 ·rw [List.drop_set, if_pos (by omega)]
  have := congrArg (List.drop 1) h3
  simpa [List.drop_drop] using this
 ·rw [e, List.length_append, h4]; rfl

theorem own_take {w : World} {B es n k cp g : Nat} {e : TypeId} {xs : List Value} (h : w.ownsRow B e es (.slice (some ⟨g, 0, none⟩) n cp) n xs) (hk : k ≤ n) : w.ownsRow B e es (.slice (some ⟨g, 0, none⟩) k cp) k (xs.take (k * es)) := by
 have hx := h.1
 have hm : k * es ≤ n * es := Nat.mul_le_mul_right _ hk
 rcases h.2 with ⟨h0, _⟩ | ⟨g', cap', cur, h0, h1, hc, h2, h3, h4, h5⟩
 ·cases h0
 ·simp only [Value.slice.injEq, Option.some.injEq, Addr.mk.injEq] at h0
  obtain ⟨⟨rfl, _⟩, _, rfl⟩ := h0
  refine ⟨by rw [List.length_take]; omega, .inr ⟨g, cp, cur, rfl, h1, hc, by omega, h3, h4, ?_⟩⟩
  rw [← h5, List.take_take, Nat.min_eq_left hm]

theorem kpCells_take' (F : List MKp) (i : Nat) : (kpCells F).take (i * 16) = kpCells (F.take i) := (kpCells_take F i).symm

def zeroK : Value := .agg #[.int .i64 0, .int .i64 0, .int .i64 0, .int .i64 0, .int .i64 0, .int .i64 0, .bool false, .slice none 0 0, .slice none 0 0, .int .i64 0, .int .i64 0, .int .i64 0, .int .i64 0, .slice none 0 0, .bool false, .bool false]

theorem zero16_len (n : Nat) : (Builtin.zeroCells zeroK.cells n).toList.length = n * 16 := by
 simp [Builtin.zeroCells, zeroK, Value.cells]

theorem zero16_one (n : Nat) : ∀ v ∈ (Builtin.zeroCells zeroK.cells n).toList, v.oneCell' = true := by
 intro v hv
 have hz : ∀ k : Fin 16, ((zeroK.cells)[k.1]!).oneCell' = true := by
  intro k
  have := List.all_eq_true.1 (show (List.all ([.int .i64 0, .int .i64 0, .int .i64 0, .int .i64 0, .int .i64 0, .int .i64 0, .bool false, .slice none 0 0, .slice none 0 0, .int .i64 0, .int .i64 0, .int .i64 0, .int .i64 0, .slice none 0 0, .bool false, .bool false] : List Value) (fun v => v.oneCell')) = true from rfl)
  refine this _ ?_
  match k with
  | ⟨0, _⟩ => exact List.mem_of_getElem? (i := 0) rfl
  | ⟨1, _⟩ => exact List.mem_of_getElem? (i := 1) rfl
  | ⟨2, _⟩ => exact List.mem_of_getElem? (i := 2) rfl
  | ⟨3, _⟩ => exact List.mem_of_getElem? (i := 3) rfl
  | ⟨4, _⟩ => exact List.mem_of_getElem? (i := 4) rfl
  | ⟨5, _⟩ => exact List.mem_of_getElem? (i := 5) rfl
  | ⟨6, _⟩ => exact List.mem_of_getElem? (i := 6) rfl
  | ⟨7, _⟩ => exact List.mem_of_getElem? (i := 7) rfl
  | ⟨8, _⟩ => exact List.mem_of_getElem? (i := 8) rfl
  | ⟨9, _⟩ => exact List.mem_of_getElem? (i := 9) rfl
  | ⟨10, _⟩ => exact List.mem_of_getElem? (i := 10) rfl
  | ⟨11, _⟩ => exact List.mem_of_getElem? (i := 11) rfl
  | ⟨12, _⟩ => exact List.mem_of_getElem? (i := 12) rfl
  | ⟨13, _⟩ => exact List.mem_of_getElem? (i := 13) rfl
  | ⟨14, _⟩ => exact List.mem_of_getElem? (i := 14) rfl
  | ⟨15, _⟩ => exact List.mem_of_getElem? (i := 15) rfl
  | ⟨k + 16, h⟩ => exact absurd h (by omega)
 simp only [Builtin.zeroCells, Array.toList_map, List.mem_map] at hv
 obtain ⟨i, _, rfl⟩ := hv
 have h16 : zeroK.cells.size = 16 := rfl
 rw [h16]
 exact hz ⟨i % 16, Nat.mod_lt _ (by decide)⟩

theorem run_clear16 {P : Program} (w : World) (t e ty : TypeId) (ht : P.underlying t = some (.slice e)) (hv : ∀ w, (zeroValue e).run P w = .ok zeroK w) (b o n c : Nat) (hn : 0 < n)
  (hc : ∀ j, j < n * 16 → (w.cell? ⟨b, o + j, none⟩).isSome = true) (hf : ∀ j, j < n * 16 → w.frozen? ⟨b, o + j, none⟩ = false) :
  (Builtin.clear_ #[t] ty #[.slice (some ⟨b, o, none⟩) n c]).run P w = .ok (.tuple #[]) (w.setCells b o (Builtin.zeroCells zeroK.cells n).toList) := by
 have hst := run_storeCells_cells (P := P) b o (Builtin.zeroCells zeroK.cells n).toList 0 w (by rw [zero16_len]; simpa using hc) (by rw [zero16_len]; simpa using hf) (zero16_one n)
 simp only [Nat.add_zero] at hst
 obtain ⟨m, rfl⟩ : ∃ m, n = m + 1 := ⟨n - 1, by omega⟩
 simp [Builtin.clear_, run_underlying ht, hv, hst]

set_option maxHeartbeats 4000000 in
set_option maxRecDepth 16000 in
theorem delRegion (x y : MKp) (g z cap i eb : Nat) (u1 u2 u3 u4 u6 u8 u9 u10 u11 u12 u13 u14 u15 u16 u17 u18 u19 u20 u21 u22 u23 u24 u25 u26 u27 u28 u29 u30 u31 u32 u33 u34 u35 u36 u37 u38 u39 u40 u41 : Value) (W : World) (Q : Exit → Act → World → Prop) (hi : i < z) (hx : Shut (W.heap[eb]? = some (.cells #[.int .i64 x.k.h.F, .int .i64 x.k.h.Q, .int .i64 x.k.h.T, .int .i64 x.k.h.L, .int .i64 x.k.h.B, .int .i64 x.k.h.K, .bool x.k.own, .slice x.ca x.k.c.length x.cc, .slice x.ya x.ys.length x.yc, .int .i64 x.k.sh, .int .i64 x.k.gv, .int .i64 x.k.tw, .int .i64 x.k.tr, .slice x.ta x.k.tk.length x.tc, .bool x.k.dl, .bool x.k.pg] 88 (0, 0)))) (hy : Shut (∀ (a : Nat) (v : Value), y.cells[a]? = some v → W.cell? ⟨g, i * 16 + a, none⟩ = some v)) (hf : Shut (∀ a, W.frozen? ⟨g, a, none⟩ = false))
  (hQ : Q .normal ⟨#[.slice (some ⟨g, 0, none⟩) z cap, u1, u2, u3, u4, .int .i64 (i : Int), u6, .pointer (some ⟨eb, 0, none⟩), u8, u9, u10, u11, u12, u13, u14, u15, u16, u17, u18, u19, u20, u21, u22, u23, u24, u25, u26, u27, u28, u29, .slice (some ⟨g, 0, none⟩) z cap, .int .i64 (i : Int), .agg #[.int .i64 x.k.h.F, .int .i64 x.k.h.Q, .int .i64 x.k.h.T, .int .i64 x.k.h.L, .int .i64 x.k.h.B, .int .i64 x.k.h.K, .bool x.k.own, .slice x.ca x.k.c.length x.cc, .slice x.ya x.ys.length x.yc, .int .i64 x.k.sh, .int .i64 x.k.gv, .int .i64 x.k.tw, .int .i64 x.k.tr, .slice x.ta x.k.tk.length x.tc, .bool x.k.dl, .bool x.k.pg], .pointer (some ⟨g, i * 16, none⟩), u34, u35, u36, u37, u38, u39, u40, u41], []⟩ (setRun W g (i * 16) [.int .i64 x.k.h.F, .int .i64 x.k.h.Q, .int .i64 x.k.h.T, .int .i64 x.k.h.L, .int .i64 x.k.h.B, .int .i64 x.k.h.K, .bool x.k.own, .slice x.ca x.k.c.length x.cc, .slice x.ya x.ys.length x.yc, .int .i64 x.k.sh, .int .i64 x.k.gv, .int .i64 x.k.tw, .int .i64 x.k.tr, .slice x.ta x.k.tk.length x.tc, .bool x.k.dl, .bool x.k.pg])) : Code.wp Tryz.prog (Code.region 9 #[{ dst := some 30, op := Op.move (Operand.tmp 0), type := 23, pos := "slices.go:249", after := #[], guard := none }, { dst := some 31, op := Op.move (Operand.tmp 5), type := 3, pos := "slices.go:249", after := #[], guard := none }, { dst := some 32, op := Op.load 88 (Operand.tmp 7), type := 88, pos := "slices.go:249", after := #[], guard := none }, { dst := some 33, op := Op.indexAddr 23 (Operand.tmp 30) (Operand.tmp 31), type := 0, pos := "slices.go:249", after := #[{ on := 0, ground := Ground.data }, { on := 1, ground := Ground.data }, { on := 0, ground := Ground.phase }, { on := 1, ground := Ground.phase }, { on := 2, ground := Ground.phase }], guard := none }, { dst := none, op := Op.store 88 (Operand.tmp 33) (Operand.tmp 32), type := 0, pos := "slices.go:249", after := #[{ on := 3, ground := Ground.data }, { on := 2, ground := Ground.data }, { on := 0, ground := Ground.phase }, { on := 1, ground := Ground.phase }, { on := 2, ground := Ground.phase }], guard := none }] false) Q ⟨#[.slice (some ⟨g, 0, none⟩) z cap, u1, u2, u3, u4, .int .i64 (i : Int), u6, .pointer (some ⟨eb, 0, none⟩), u8, u9, u10, u11, u12, u13, u14, u15, u16, u17, u18, u19, u20, u21, u22, u23, u24, u25, u26, u27, u28, u29, u30, u31, u32, u33, u34, u35, u36, u37, u38, u39, u40, u41], []⟩ W := by
 obtain ⟨x0, x1, x2, x3, x4, x5, x6, x7, x8, x9, x10, x11, x12, x13, x14, x15⟩ := kpCellsOf hx.out
 have p0 : W.cell? ⟨g, i * 16, none⟩ = some (.int .i64 y.k.h.F) := hy.out 0 _ rfl
 have f0 := hf.out (i * 16)
 have p1 : W.cell? ⟨g, i * 16 + 1, none⟩ = some (.int .i64 y.k.h.Q) := hy.out 1 _ rfl
 have f1 := hf.out (i * 16 + 1)
 have p2 : W.cell? ⟨g, i * 16 + 2, none⟩ = some (.int .i64 y.k.h.T) := hy.out 2 _ rfl
 have f2 := hf.out (i * 16 + 2)
 have p3 : W.cell? ⟨g, i * 16 + 3, none⟩ = some (.int .i64 y.k.h.L) := hy.out 3 _ rfl
 have f3 := hf.out (i * 16 + 3)
 have p4 : W.cell? ⟨g, i * 16 + 4, none⟩ = some (.int .i64 y.k.h.B) := hy.out 4 _ rfl
 have f4 := hf.out (i * 16 + 4)
 have p5 : W.cell? ⟨g, i * 16 + 5, none⟩ = some (.int .i64 y.k.h.K) := hy.out 5 _ rfl
 have f5 := hf.out (i * 16 + 5)
 have p6 : W.cell? ⟨g, i * 16 + 6, none⟩ = some (.bool y.k.own) := hy.out 6 _ rfl
 have f6 := hf.out (i * 16 + 6)
 have p7 : W.cell? ⟨g, i * 16 + 7, none⟩ = some (.slice y.ca y.k.c.length y.cc) := hy.out 7 _ rfl
 have f7 := hf.out (i * 16 + 7)
 have p8 : W.cell? ⟨g, i * 16 + 8, none⟩ = some (.slice y.ya y.ys.length y.yc) := hy.out 8 _ rfl
 have f8 := hf.out (i * 16 + 8)
 have p9 : W.cell? ⟨g, i * 16 + 9, none⟩ = some (.int .i64 y.k.sh) := hy.out 9 _ rfl
 have f9 := hf.out (i * 16 + 9)
 have p10 : W.cell? ⟨g, i * 16 + 10, none⟩ = some (.int .i64 y.k.gv) := hy.out 10 _ rfl
 have f10 := hf.out (i * 16 + 10)
 have p11 : W.cell? ⟨g, i * 16 + 11, none⟩ = some (.int .i64 y.k.tw) := hy.out 11 _ rfl
 have f11 := hf.out (i * 16 + 11)
 have p12 : W.cell? ⟨g, i * 16 + 12, none⟩ = some (.int .i64 y.k.tr) := hy.out 12 _ rfl
 have f12 := hf.out (i * 16 + 12)
 have p13 : W.cell? ⟨g, i * 16 + 13, none⟩ = some (.slice y.ta y.k.tk.length y.tc) := hy.out 13 _ rfl
 have f13 := hf.out (i * 16 + 13)
 have p14 : W.cell? ⟨g, i * 16 + 14, none⟩ = some (.bool y.k.dl) := hy.out 14 _ rfl
 have f14 := hf.out (i * 16 + 14)
 have p15 : W.cell? ⟨g, i * 16 + 15, none⟩ = some (.bool y.k.pg) := hy.out 15 _ rfl
 have f15 := hf.out (i * 16 + 15)
 have hi1 : (i : Int) < (z : Int) := by omega
 have HQ := Shut.mk hQ
 clear hQ
 go_wp2
 rw [set16]
 exact HQ.out

set_option maxHeartbeats 8000000 in
set_option maxRecDepth 16000 in
theorem deleteK_some (B tb : Nat) (t : Int) (g z cap : Nat) (N : List MKp) (w : World) (hown : w.ownsRow B 88 16 (.slice (some ⟨g, 0, none⟩) z cap) z (kpCells N)) (hz : z ≤ 12) (hz0 : 0 < z) (htb : w.cell? ⟨tb, 0, none⟩ = some (.int .i64 t)) (hne : tb ≠ g) (HZ : Shut (N.findIdx (fun Y : MKp => decide (Y.k.h.L ≤ t)) < N.length)) :
  Calls Tryz.prog 108 #[.slice (some ⟨g, 0, none⟩) z cap, .func (.func 109) #[] #[.pointer (some ⟨tb, 0, none⟩)]] w fun e w' => ∃ r : Nat, e = .returned (.slice (some ⟨g, 0, none⟩) r cap) ∧ Shut (w'.ownsRow B 88 16 (.slice (some ⟨g, 0, none⟩) r cap) r (kpCells (N.filter fun Y => !decide (Y.k.h.L ≤ t))) ∧ w.grownBy w' (some g)) := by
 have eg := entersTick1
 obtain ⟨i0, hii, hzz0, hzz1, hzz2⟩ := info_ins
 have hNl : N.length = z := by have := hown.1; rw [kpCells_length] at this; omega
 have hcz := own_some hown
 have hcm : cap ≤ maxLen := by
  rcases hown.2 with ⟨h0, _⟩ | ⟨g', cap', cur, h0, h1, hc, h2, h3, h4, h5⟩
  ·cases h0
  ·simp only [Value.slice.injEq] at h0
   omega
 have hI := indexTick (some ⟨g, 0, none⟩) cap N t tb w hcz.1 (by rw [hNl]; unfold maxLen; omega) htb
 rw [hNl] at hI
 obtain ⟨D, hD⟩ : ∃ D : MKp → Bool, (fun Y : MKp => decide (Y.k.h.L ≤ t)) = D := ⟨_, rfl⟩
 have hDx : ∀ x : MKp, decide (x.k.h.L ≤ t) = D x := fun x => by rw [← hD]
 have hfil : (N.filter fun Y => !decide (Y.k.h.L ≤ t)) = N.filter fun Y => !D Y := by rw [← hD]
 rw [hfil]
 rw [hD] at HZ
 rw [hD] at hI
 clear hfil
 by_cases hsome : N.findIdx D < N.length
 ·obtain ⟨q0, hq0⟩ : ∃ q0, N.findIdx D = q0 := ⟨_, rfl⟩
  rw [hq0] at hsome
  have hit : D N[q0] = true := by
   have := List.findIdx_getElem (p := D) (w := (by rw [hq0]; exact hsome : N.findIdx D < N.length))
   simpa [hq0] using this
  have hin : ∀ j (hj : j < q0), D (N[j]'(by omega)) = false := fun j hj => by
   have := List.not_of_lt_findIdx (p := D) (xs := N) (i := j) (by omega)
   simpa using this
  have e1 : idxP D N = q0 := idxP_at hsome hit hin
  rw [e1] at hI
  have hk0 : keptK D N (q0 + 1) = N.take q0 := by
   rw [keptK_succ (List.getElem?_eq_getElem hsome), if_pos hit]
   unfold keptK
   refine List.filter_eq_self.2 fun x hx => ?_
   obtain ⟨j, hj, rfl⟩ := List.getElem_of_mem hx
   rw [List.getElem_take]
   have : j < q0 := by rw [List.length_take] at hj; omega
   simp [hin j this]
  have hS0 : ∀ w1, Below w.heap.size w w1 → Shut (DelK B w w1 g z cap N D q0 (q0 + 1)) := fun w1 hb => ⟨N, ownB hown hb, hk0.symm, rfl, by rw [hk0, List.length_take]; omega, by omega, grown_of _ hb⟩
  have HX := Shut.mk (And.intro hNl (And.intro hDx (And.intro htb hcz.2)))
  have hneg : ((q0 : Int) == -1) = false := by simp
  have hzv : ∀ W, (zeroValue 88).run Tryz.prog W = .ok zeroK W := fun W => by simp [zeroValue, typeInfo, hii, hzz0, zeroK]
  have hq0z : q0 < z := by omega
  have HVA := Shut.mk hzv
  clear hzv hii hzz0 hzz1 hzz2
  clear HZ hk0 hit hin e1 hown hNl hcz hD hDx htb hsome hq0
  go_enter Tryz.func108, Tryz.ntmps108
  go_wp2_with fail
  refine hI.mono ?_
  rintro e w1 ⟨rfl, hb1⟩
  have HS0 := hS0 w1 hb1
  clear hI hS0
  go_wp2
  go_loopw [5, 6] (fun a b wr => ∃ i j : Nat, j ≤ z ∧ i < j ∧ a = .int .i64 i ∧ b = .int .i64 j ∧ Shut (DelK B w wr g z cap N D i j)) (fun _ b _ => z - (intOf b).toNat)
  case atStart => exact ⟨q0, q0 + 1, by omega, by omega, rfl, by go_num, HS0⟩
  case round =>
   clear HS0 hneg
   obtain ⟨i, j, hjz, hij, rfl, rfl, HI⟩ := hrel
   by_cases hlt : j < z
   ·obtain ⟨F, hF1, hF2, hF3, hF4, hF5, hF6⟩ := HI.out
    have hFl : F.length = z := by have := hF1.1; rw [kpCells_length] at this; omega
    obtain ⟨x, hx⟩ : ∃ x, N[j]? = some x := ⟨_, List.getElem?_eq_getElem (by rw [HX.out.1]; exact hlt)⟩
    have hFx : F[j]? = some x := by
     have := congrArg (fun l : List MKp => l[0]?) hF3
     simpa [List.getElem?_drop, hx] using this
    obtain ⟨y, hy⟩ : ∃ y, F[i]? = some y := ⟨_, List.getElem?_eq_getElem (by omega)⟩
    have hli := (own_some hF1).1
    have hgw := (hF1.lt g rfl).2
    have hcell : ∀ (a : Nat) (v : Value), x.cells[a]? = some v → wr.cell? ⟨g, j * 16 + a, none⟩ = some v := fun a v hv => by
     have := kp_cell ⟨hli, hFx⟩ a hv
     rwa [Nat.zero_add] at this
    have hst : ∀ (u : World), Below wr.heap.size wr u → (∀ (a : Nat) (v : Value), y.cells[a]? = some v → u.cell? ⟨g, i * 16 + a, none⟩ = some v) ∧ ∀ a, u.frozen? ⟨g, a, none⟩ = false := fun u hu => ⟨fun a v hv => by
     have := kp_cell ⟨(own_some (ownB hF1 hu)).1, hy⟩ a hv
     rwa [Nat.zero_add] at this, own_frz (ownB hF1 hu)⟩
    have HST := Shut.mk hst
    have HDK : Shut ((∀ u, Below wr.heap.size wr u → D x = true → DelK B w u g z cap N D i (j + 1)) ∧ (∀ u, Below wr.heap.size wr u → D x = false → DelK B w (u.setCells g (i * 16) x.cells) g z cap N D (i + 1) (j + 1))) := ⟨fun u hu h => HI.out.del hx h hu, fun u hu h => HI.out.keep hx h hu hlt⟩
    have htw : wr.cell? ⟨tb, 0, none⟩ = some (.int .i64 t) := hF6.cell HX.out.2.2.1 (fun e => hne (Option.some.inj e))
    have p0 : wr.cell? ⟨g, j * 16, none⟩ = some (.int .i64 x.k.h.F) := hcell 0 _ rfl
    have p1 : wr.cell? ⟨g, j * 16 + 1, none⟩ = some (.int .i64 x.k.h.Q) := hcell 1 _ rfl
    have p2 : wr.cell? ⟨g, j * 16 + 2, none⟩ = some (.int .i64 x.k.h.T) := hcell 2 _ rfl
    have p3 : wr.cell? ⟨g, j * 16 + 3, none⟩ = some (.int .i64 x.k.h.L) := hcell 3 _ rfl
    have p4 : wr.cell? ⟨g, j * 16 + 4, none⟩ = some (.int .i64 x.k.h.B) := hcell 4 _ rfl
    have p5 : wr.cell? ⟨g, j * 16 + 5, none⟩ = some (.int .i64 x.k.h.K) := hcell 5 _ rfl
    have p6 : wr.cell? ⟨g, j * 16 + 6, none⟩ = some (.bool x.k.own) := hcell 6 _ rfl
    have p7 : wr.cell? ⟨g, j * 16 + 7, none⟩ = some (.slice x.ca x.k.c.length x.cc) := hcell 7 _ rfl
    have p8 : wr.cell? ⟨g, j * 16 + 8, none⟩ = some (.slice x.ya x.ys.length x.yc) := hcell 8 _ rfl
    have p9 : wr.cell? ⟨g, j * 16 + 9, none⟩ = some (.int .i64 x.k.sh) := hcell 9 _ rfl
    have p10 : wr.cell? ⟨g, j * 16 + 10, none⟩ = some (.int .i64 x.k.gv) := hcell 10 _ rfl
    have p11 : wr.cell? ⟨g, j * 16 + 11, none⟩ = some (.int .i64 x.k.tw) := hcell 11 _ rfl
    have p12 : wr.cell? ⟨g, j * 16 + 12, none⟩ = some (.int .i64 x.k.tr) := hcell 12 _ rfl
    have p13 : wr.cell? ⟨g, j * 16 + 13, none⟩ = some (.slice x.ta x.k.tk.length x.tc) := hcell 13 _ rfl
    have p14 : wr.cell? ⟨g, j * 16 + 14, none⟩ = some (.bool x.k.dl) := hcell 14 _ rfl
    have p15 : wr.cell? ⟨g, j * 16 + 15, none⟩ = some (.bool x.k.pg) := hcell 15 _ rfl
    have hi1 : (i : Int) < (z : Int) := by omega
    clear HI hF1 hF2 hF3 hF4 hF5 hF6 hFl hFx hli hcell hst hx hy
    go_upto_region 8 with fail
    obtain ⟨W1, hW1⟩ : ∃ W1, wr.alloc (.cells #[.int .i64 x.k.h.F, .int .i64 x.k.h.Q, .int .i64 x.k.h.T, .int .i64 x.k.h.L, .int .i64 x.k.h.B, .int .i64 x.k.h.K, .bool x.k.own, .slice x.ca x.k.c.length x.cc, .slice x.ya x.ys.length x.yc, .int .i64 x.k.sh, .int .i64 x.k.gv, .int .i64 x.k.tw, .int .i64 x.k.tr, .slice x.ta x.k.tk.length x.tc, .bool x.k.dl, .bool x.k.pg] 88) = W1 := ⟨_, rfl⟩
    rw [hW1]
    have hb2 : Below wr.heap.size wr W1 := by rw [← hW1]; exact (Below.refl _ _).alloc (Nat.le_refl _) _
    have hx1 : W1.heap[wr.heap.size]? = some (.cells #[.int .i64 x.k.h.F, .int .i64 x.k.h.Q, .int .i64 x.k.h.T, .int .i64 x.k.h.L, .int .i64 x.k.h.B, .int .i64 x.k.h.K, .bool x.k.own, .slice x.ca x.k.c.length x.cc, .slice x.ya x.ys.length x.yc, .int .i64 x.k.sh, .int .i64 x.k.gv, .int .i64 x.k.tw, .int .i64 x.k.tr, .slice x.ta x.k.tk.length x.tc, .bool x.k.dl, .bool x.k.pg] 88 (0, 0)) := by rw [← hW1, heap_alloc_eq, if_pos rfl]
    have hA := tick1_any x t tb W1 (cellW htw hb2)
    rw [HX.out.2.1 x] at hA
    generalize D x = b at hA HDK
    clear hW1 p0 p1 p2 p3 p4 p5 p6 p7 p8 p9 p10 p11 p12 p13 p14 p15 htw
    obtain ⟨x0, x1, x2, x3, x4, x5, x6, x7, x8, x9, x10, x11, x12, x13, x14, x15⟩ := kpCellsOf hx1
    go_wp2_with fail
    refine hA.mono ?_
    rintro e w2 ⟨rfl, hbt⟩
    have hbw := hb2.trans (hbt.mono hb2.size)
    have hx2 := blkB hx1 hbt
    clear hA x0 x1 x2 x3 x4 x5 x6 x7 x8 x9 x10 x11 x12 x13 x14 x15 hb2 hx1 hbt
    cases b
    ·obtain ⟨x0, x1, x2, x3, x4, x5, x6, x7, x8, x9, x10, x11, x12, x13, x14, x15⟩ := kpCellsOf hx2
     obtain ⟨hsc, hsf⟩ := HST.out w2 hbw
     have R := Shut.mk (HDK.out.2 w2 hbw rfl)
     have hsc' := Shut.mk hsc
     have hsf' := Shut.mk hsf
     have hx2' := Shut.mk hx2
     clear HDK hx2 hbw HST hsc hsf
     have e9 : Shut (DelK B w (setRun w2 g (i * 16) [.int .i64 x.k.h.F, .int .i64 x.k.h.Q, .int .i64 x.k.h.T, .int .i64 x.k.h.L, .int .i64 x.k.h.B, .int .i64 x.k.h.K, .bool x.k.own, .slice x.ca x.k.c.length x.cc, .slice x.ya x.ys.length x.yc, .int .i64 x.k.sh, .int .i64 x.k.gv, .int .i64 x.k.tw, .int .i64 x.k.tr, .slice x.ta x.k.tk.length x.tc, .bool x.k.dl, .bool x.k.pg]) g z cap N D (i + 1) (j + 1)) := ⟨R.out⟩
     clear R
     go_upto_region 9 with fail
     refine delRegion x y g z cap i wr.heap.size _ _ _ _ _ _ _ _ _ _ _ _ _ _ _ _ _ _ _ _ _ _ _ _ _ _ _ _ _ _ _ _ _ _ _ _ _ _ _ w2 _ (by omega) hx2' hsc' hsf' ?_
     generalize setRun w2 g (i * 16) [.int .i64 x.k.h.F, .int .i64 x.k.h.Q, .int .i64 x.k.h.T, .int .i64 x.k.h.L, .int .i64 x.k.h.B, .int .i64 x.k.h.K, .bool x.k.own, .slice x.ca x.k.c.length x.cc, .slice x.ya x.ys.length x.yc, .int .i64 x.k.sh, .int .i64 x.k.gv, .int .i64 x.k.tw, .int .i64 x.k.tr, .slice x.ta x.k.tk.length x.tc, .bool x.k.dl, .bool x.k.pg] = W9 at e9 ⊢
     clear x0 x1 x2 x3 x4 x5 x6 x7 x8 x9 x10 x11 x12 x13 x14 x15 hsc' hsf' hx2'
     go_wp2
     go_roundw
     case rel => exact ⟨i + 1, j + 1, by omega, by omega, by go_num, by go_num, e9⟩
     case measure => simp [intOf]; omega
    ·have R := Shut.mk (HDK.out.1 w2 hbw rfl)
     clear HDK hx2 hbw HST
     go_wp2
     go_roundw
     case rel => exact ⟨i, j + 1, by omega, by omega, rfl, by go_num, R⟩
     case measure => simp [intOf]; omega
   ·obtain rfl : j = z := by omega
    obtain ⟨F, hF1, hF2, hF3, hF4, hF5, hF6⟩ := HI.out
    have hFl : F.length = j := by have := hF1.1; rw [kpCells_length] at this; omega
    have hli := (own_some hF1).1
    have hcapj := HX.out.2.2.2
    obtain ⟨zs, hzs⟩ : ∃ zs, (Builtin.zeroCells zeroK.cells (j - i)).toList = zs := ⟨_, rfl⟩
    have hcl := fun ty => run_clear16 (P := Tryz.prog) wr 23 88 ty Tryz.underlying23 HVA.out g (i * 16) (j - i) (cap - i) (by omega) (fun a ha => by
     have hlt : i * 16 + a < (kpCells F).length := by rw [kpCells_length]; omega
     have := hli.at (k := i * 16 + a) (List.getElem?_eq_getElem hlt)
     rw [Nat.zero_add] at this
     rw [this]; rfl) (fun a ha => own_frz hF1 _)
    rw [hzs] at hcl
    have R : Shut ((wr.setCells g (i * 16) zs).ownsRow B 88 16 (.slice (some ⟨g, 0, none⟩) i cap) i (kpCells (N.filter fun Y => !D Y)) ∧ w.grownBy (wr.setCells g (i * 16) zs) (some g)) := by
     have hzl := zero16_len (j - i)
     rw [hzs] at hzl
     have h1 := own_setRun hF1 zs (i * 16) (by rw [hzl]; omega)
     have h2 := own_take h1 (k := i) (by omega)
     have e1 : ((kpCells F).take (i * 16) ++ zs ++ (kpCells F).drop (i * 16 + zs.length)).take (i * 16) = (kpCells F).take (i * 16) := by
      rw [List.append_assoc, List.take_append_of_le_length (by rw [List.length_take, kpCells_length]; omega), List.take_take, Nat.min_self]
     have e2 : keptK D N j = N.filter fun Y => !D Y := by unfold keptK; rw [List.take_of_length_le (by rw [HX.out.1]; exact Nat.le_refl _)]
     rw [e1, kpCells_take', hF2, e2] at h2
     exact ⟨h2, grown_setRun g _ _ _ _ hF6⟩
    have hi1 : (0 : Int) ≤ (i : Int) := by omega
    have hi2 : (i : Int) ≤ (j : Int) := by omega
    have hi3 : (j : Int) ≤ (cap : Int) := by omega
    have hi4 : (i : Int) ≤ (cap : Int) := by omega
    have hi5 : i ≤ cap := by omega
    have hi6 : ¬ j < j := by omega
    have hi7 : ¬ (cap = i) := by omega
    clear hF1 hF2 hF3 hF4 hF5 hF6 HI hli hFl hzs
    have hc0 := hcl 0
    clear hcl
    go_wp2
    go_ret
    exact ⟨i, rfl, R⟩
 ·exact absurd HZ.out (fun e => hsome e)

set_option maxHeartbeats 8000000 in
set_option maxRecDepth 16000 in
theorem deleteK_none (B tb : Nat) (t : Int) (g z cap : Nat) (N : List MKp) (w : World) (hown : w.ownsRow B 88 16 (.slice (some ⟨g, 0, none⟩) z cap) z (kpCells N)) (hz : z ≤ 12) (hz0 : 0 < z) (htb : w.cell? ⟨tb, 0, none⟩ = some (.int .i64 t)) (hne : tb ≠ g) (HZ : Shut (¬ N.findIdx (fun Y : MKp => decide (Y.k.h.L ≤ t)) < N.length)) :
  Calls Tryz.prog 108 #[.slice (some ⟨g, 0, none⟩) z cap, .func (.func 109) #[] #[.pointer (some ⟨tb, 0, none⟩)]] w fun e w' => ∃ r : Nat, e = .returned (.slice (some ⟨g, 0, none⟩) r cap) ∧ Shut (w'.ownsRow B 88 16 (.slice (some ⟨g, 0, none⟩) r cap) r (kpCells (N.filter fun Y => !decide (Y.k.h.L ≤ t))) ∧ w.grownBy w' (some g)) := by
 have eg := entersTick1
 obtain ⟨i0, hii, hzz0, hzz1, hzz2⟩ := info_ins
 have hNl : N.length = z := by have := hown.1; rw [kpCells_length] at this; omega
 have hcz := own_some hown
 have hcm : cap ≤ maxLen := by
  rcases hown.2 with ⟨h0, _⟩ | ⟨g', cap', cur, h0, h1, hc, h2, h3, h4, h5⟩
  ·cases h0
  ·simp only [Value.slice.injEq] at h0
   omega
 have hI := indexTick (some ⟨g, 0, none⟩) cap N t tb w hcz.1 (by rw [hNl]; unfold maxLen; omega) htb
 rw [hNl] at hI
 obtain ⟨D, hD⟩ : ∃ D : MKp → Bool, (fun Y : MKp => decide (Y.k.h.L ≤ t)) = D := ⟨_, rfl⟩
 have hDx : ∀ x : MKp, decide (x.k.h.L ≤ t) = D x := fun x => by rw [← hD]
 have hfil : (N.filter fun Y => !decide (Y.k.h.L ≤ t)) = N.filter fun Y => !D Y := by rw [← hD]
 rw [hfil]
 rw [hD] at HZ
 rw [hD] at hI
 clear hfil
 by_cases hsome : N.findIdx D < N.length
 ·exact absurd hsome HZ.out
 ·have hN : ∀ j (hj : j < N.length), D N[j] = false := fun j hj => by
   have := List.not_of_lt_findIdx (p := D) (xs := N) (i := j) (by omega)
   simpa using this
  rw [idxP_none hN] at hI
  have ef : (N.filter fun Y => !D Y) = N := List.filter_eq_self.2 fun x hx => by
   obtain ⟨j, hj, rfl⟩ := List.getElem_of_mem hx
   simp [hN j hj]
  rw [ef]
  have R : ∀ u, Below w.heap.size w u → Shut (u.ownsRow B 88 16 (.slice (some ⟨g, 0, none⟩) z cap) z (kpCells N) ∧ w.grownBy u (some g)) := fun u hu => ⟨ownB hown hu, grown_of _ hu⟩
  clear HZ hown hsome ef hN hii hzz0 hzz1 hzz2 hDx htb hcz
  go_enter Tryz.func108, Tryz.ntmps108
  go_wp2_with fail
  refine hI.mono ?_
  rintro e w1 ⟨rfl, hb1⟩
  have R1 := R w1 hb1
  clear hI R
  go_wp2
  go_ret
  exact ⟨z, rfl, R1⟩

theorem deleteK (B tb : Nat) (t : Int) (g z cap : Nat) (N : List MKp) (w : World) (hown : w.ownsRow B 88 16 (.slice (some ⟨g, 0, none⟩) z cap) z (kpCells N)) (hz12 : z ≤ 12) (hz0 : 0 < z) (htb : w.cell? ⟨tb, 0, none⟩ = some (.int .i64 t)) (hne : tb ≠ g) :
  Calls Tryz.prog 108 #[.slice (some ⟨g, 0, none⟩) z cap, .func (.func 109) #[] #[.pointer (some ⟨tb, 0, none⟩)]] w fun e w' => ∃ r : Nat, e = .returned (.slice (some ⟨g, 0, none⟩) r cap) ∧ Shut (w'.ownsRow B 88 16 (.slice (some ⟨g, 0, none⟩) r cap) r (kpCells (N.filter fun Y => !decide (Y.k.h.L ≤ t))) ∧ w.grownBy w' (some g)) := by
 by_cases hz : N.findIdx (fun Y : MKp => decide (Y.k.h.L ≤ t)) < N.length
 ·exact deleteK_some B tb t g z cap N w hown hz12 hz0 htb hne ⟨hz⟩
 ·exact deleteK_none B tb t g z cap N w hown hz12 hz0 htb hne ⟨hz⟩

def Apart2 (m m' : MKp) : Prop := (∀ b, growB m b → FarM b m' ∧ ¬ growB m' b) ∧ (∀ b, growB m' b → FarM b m ∧ ¬ growB m b)

theorem far_pairs {L : List MKp} : (∀ (i j : Nat) (m m' : MKp), i ≠ j → L[i]? = some m → L[j]? = some m' → ∀ b, growB m b → FarM b m' ∧ ¬ growB m' b) ↔ L.Pairwise Apart2 := by
 rw [List.pairwise_iff_getElem]
 constructor
 ·intro h i j hi hj hij
  exact ⟨h i j _ _ (by omega) (List.getElem?_eq_getElem hi) (List.getElem?_eq_getElem hj), h j i _ _ (by omega) (List.getElem?_eq_getElem hj) (List.getElem?_eq_getElem hi)⟩
 ·intro h i j m m' hij h1 h2 b hb
  obtain ⟨hi, rfl⟩ := List.getElem?_eq_some_iff.1 h1
  obtain ⟨hj, rfl⟩ := List.getElem?_eq_some_iff.1 h2
  rcases Nat.lt_or_ge i j with hlt | hge
  ·exact (h i j hi hj hlt).1 b hb
  ·exact (h j i hj hi (by omega)).2 b hb

theorem PlNew.filt {B : Nat} {w w' : World} {l : List Kp} {L : List MKp} {p : Option Addr} {cp r : Nat} {D : Kp → Bool} (h : PlNew B w l L p cp) (hr : ((L.filter fun Y => D Y.k)).length = r) (hown : w'.ownsRow B 88 16 (.slice p r cp) r (kpCells (L.filter fun Y => D Y.k))) (hgr : w.grownBy w' (Value.slice p l.length cp).ownBlock) :
  PlNew B w' (l.filter D) (L.filter fun Y => D Y.k) p cp := by
 have hmap : (L.filter fun Y => D Y.k).map MKp.k = l.filter D := by rw [← h.says, List.filter_map]; rfl
 have hlen : (l.filter D).length = r := by rw [← hmap, List.length_map]; exact hr
 refine ⟨hmap, by rw [hlen]; exact hown, fun m hm => ?_, ?_⟩
 ·have h1 := h.new m (List.mem_filter.1 hm).1
  exact ⟨h1.1.keep (fun b => ∃ o, p = some ⟨b, o, none⟩) (fun b ⟨o, e⟩ => h1.2 b o e) (fun k hk hP => hgr.block k hk (fun e => hP ⟨0, own_plain h.own e.symm⟩)), h1.2⟩
 ·exact far_pairs.2 ((far_pairs.1 h.far).filter _)

set_option maxHeartbeats 2000000 in
set_option maxRecDepth 8000 in
theorem deleteK_nil (p : Option Addr) (cap tb : Nat) (t : Int) (w : World) (htb : w.cell? ⟨tb, 0, none⟩ = some (.int .i64 t)) :
  Calls Tryz.prog 108 #[.slice p 0 cap, .func (.func 109) #[] #[.pointer (some ⟨tb, 0, none⟩)]] w fun e w' => e = .returned (.slice p 0 cap) ∧ Below w.heap.size w w' := by
 have hI := indexTick p cap [] t tb w (Lies.nil _ _) (Nat.zero_le _) htb
 have e1 : idxP (fun Y : MKp => decide (Y.k.h.L ≤ t)) [] = -1 := rfl
 rw [e1] at hI
 have hI' : Calls Tryz.prog 57 #[.slice p 0 cap, .func (.func 109) #[] #[.pointer (some ⟨tb, 0, none⟩)]] w fun e w' => e = .returned (.int .i64 (-1)) ∧ Below w.heap.size w w' := hI
 clear hI e1 htb
 go_enter Tryz.func108, Tryz.ntmps108
 go_wp2_with fail
 refine hI'.mono ?_
 rintro e w1 ⟨rfl, hb1⟩
 clear hI'
 go_wp2
 go_ret
 exact ⟨rfl, hb1⟩

theorem setK4c (W : World) (g : Nat) (T : TypeId) (a b c d v : Value) (h : W.heap[g]? = some (.cells #[a, b, c, d] T (0, 0))) :
  ∃ W', W.setCell ⟨g, 2, none⟩ v = W' ∧ W'.heap[g]? = some (.cells #[a, b, v, d] T (0, 0)) ∧ (∀ k, k ≠ g → W'.heap[k]? = W.heap[k]?) ∧ ∀ B w, B ≤ g → Below B w W → Below B w W' := by
 refine ⟨_, rfl, ?_, fun k hk => setCell_far _ _ hk, fun B w hB hb => hb.setCell (p := ⟨g, 2, none⟩) hB _⟩
 have := setCell_blk (v := v) h 2
 simpa using this

set_option maxHeartbeats 4000000 in
set_option maxRecDepth 8000 in
theorem tick_any (B gp : Nat) (P : Pl) (L : List MKp) (p : Option Addr) (cp : Nat) (now : Int) (w : World) (hP : PlAt w B gp P.me P.tm P.sq P.kp L p cp) (hn : P.kp.length ≤ 12) :
  Calls Tryz.prog 69 #[.pointer (some ⟨gp, 0, none⟩), .int .i64 now] w fun e w' => e = .returned (.int .i64 (P.tick now).1) ∧ Shut (DoR B gp w (P.tick now).1 (P.tick now).2 w') := by
 obtain ⟨me, l, tm, sq⟩ := P
 simp only at hP hn
 obtain ⟨n, hnl⟩ : ∃ n, l.length = n := ⟨_, rfl⟩
 rw [hnl] at hn
 have hBw : B ≤ w.heap.size := by have := hP.lo; have := hP.lt; omega
 obtain ⟨W, hW⟩ : ∃ W, w.alloc (.cells #[.int .i64 now] 3) = W := ⟨_, rfl⟩
 have hb : Below w.heap.size w W := by rw [← hW]; exact (Below.refl _ _).alloc (Nat.le_refl _) _
 have hk : W.heap[w.heap.size]? = some (.cells #[.int .i64 now] 3 (0, 0)) := by rw [← hW, heap_alloc_eq, if_pos rfl]
 have hPW := hP.below hb
 have HW := Shut.mk hW
 have HN := Shut.mk hnl
 have H := Shut.mk (And.intro hPW (And.intro hk (And.intro hb (And.intro hBw hP))))
 have bad : ∀ (z : Int) (P' : Pl) (u : World), z ≠ 0 → Below w.heap.size w u → Shut (DoR B gp w z P' u) := fun z P' u hz hu => ⟨hu.mono H.out.2.2.2.1, fun e => absurd e hz⟩
 obtain ⟨b0, b1, b2, b3⟩ := plBox hPW.box
 rw [hnl] at b1
 have a0 := cellB hk 0 (.int .i64 now) rfl
 clear hW hk hP hPW hBw hnl
 have hbW := hb
 clear hb
 go_enter Tryz.func69, Tryz.ntmps69
 go_upto_region 1 with fail
 rw [HW.out]
 clear HW
 by_cases c1 : now ≤ tm
 ·have HR := Shut.mk (show Pl.tick ⟨me, l, tm, sq⟩ now = (7, ⟨me, l, tm, sq⟩) from by unfold Pl.tick; rw [if_pos c1])
  go_region
  all_goals
   go_wp2
   go_ret
   rw [HR.out]
   exact ⟨rfl, bad _ _ _ (by show (7 : Int) ≠ 0; decide) hbW.drew⟩
 ·have HR := Shut.mk (show Pl.tick ⟨me, l, tm, sq⟩ now = (0, ⟨me, l.filter fun k => !decide (k.h.L ≤ now), now, sq⟩) from by unfold Pl.tick; rw [if_neg c1])
  go_region
  have f2 := frzB H.out.1.box 2
  all_goals go_upto_region 4 with fail
  obtain ⟨V, hV, hbV, hoV, hBV⟩ := setK4c W gp 25 _ _ _ _ (.int .i64 now) H.out.1.box
  have hVd : (W.setCell ⟨gp, 2, none⟩ (.int .i64 now)).drew = V.drew := by rw [hV]
  rw [hVd]
  have hPV : PlAt V.drew B gp me now sq l L p cp := (H.out.1.box' hbV hoV).below ((Below.refl _ _).drew)
  have hBVd : Below B w V.drew := (hBV B w H.out.1.lo (hbW.mono H.out.2.2.2.1)).drew
  have htb : V.drew.cell? ⟨w.heap.size, 0, none⟩ = some (.int .i64 now) := by
   have hk : V.heap[w.heap.size]? = _ := (hoV _ (by have := H.out.2.2.2.2.lt; omega)).trans H.out.2.1
   exact cellB (w := V.drew) hk 0 _ rfl
  have hLn : L.length = n := by rw [← HN.out, ← hPV.pl.says, List.length_map]
  have hDel : Calls Tryz.prog 108 #[.slice p n cp, .func (.func 109) #[] #[.pointer (some ⟨w.heap.size, 0, none⟩)]] V.drew fun e w' => ∃ r : Nat, e = .returned (.slice p r cp) ∧ Shut ((l.filter fun k => !decide (k.h.L ≤ now)).length = r ∧ w'.heap[gp]? = V.drew.heap[gp]? ∧ Below B w w' ∧ ∀ (w2 : World) (hb2 : w2.heap[gp]? = some (.cells #[.int .i64 me, .slice p r cp, .int .i64 now, .int .i64 sq] 25 (0, 0))) (hk2 : ∀ k, k ≠ gp → w2.heap[k]? = w'.heap[k]?), PlAt w2 B gp me now sq (l.filter fun k => !decide (k.h.L ≤ now)) (L.filter fun Y => !decide (Y.k.h.L ≤ now)) p cp) := by
   have fin : ∀ (r : Nat) (w' : World), w'.ownsRow B 88 16 (.slice p r cp) r (kpCells (L.filter fun Y => !decide (Y.k.h.L ≤ now))) → V.drew.grownBy w' (Value.slice p l.length cp).ownBlock → Shut ((l.filter fun k => !decide (k.h.L ≤ now)).length = r ∧ w'.heap[gp]? = V.drew.heap[gp]? ∧ Below B w w' ∧ ∀ (w2 : World) (hb2 : w2.heap[gp]? = some (.cells #[.int .i64 me, .slice p r cp, .int .i64 now, .int .i64 sq] 25 (0, 0))) (hk2 : ∀ k, k ≠ gp → w2.heap[k]? = w'.heap[k]?), PlAt w2 B gp me now sq (l.filter fun k => !decide (k.h.L ≤ now)) (L.filter fun Y => !decide (Y.k.h.L ≤ now)) p cp) := fun r w' hown hgr => by
    have hfl : (L.filter fun Y => !decide (Y.k.h.L ≤ now)).length = r := by have := hown.1; rw [kpCells_length] at this; omega
    have hpl := hPV.pl.filt (D := fun k : Kp => !decide (k.h.L ≤ now)) hfl hown hgr
    have hll : (l.filter fun k => !decide (k.h.L ≤ now)).length = r := by
     have := congrArg List.length hpl.says
     rw [List.length_map] at this
     exact this.symm.trans hfl
    have hoff : ∀ m ∈ (L.filter fun Y => !decide (Y.k.h.L ≤ now)), FarM gp m ∧ ¬ growB m gp := fun m hm => hPV.off m (List.mem_filter.1 hm).1
    refine ⟨hll, hgr.block gp hPV.lt (fun e => hPV.ne gp 0 (own_plain hPV.pl.own e.symm) rfl), hBVd.trans ⟨hgr.os, hgr.tape, hgr.output, hgr.size, fun k hk => hgr.block k (by have := hPV.lo; have := hPV.lt; omega) (fun e => by have := (hPV.pl.own.lt k e.symm).1; omega)⟩, fun w2 hb2 hk2 => ⟨by rw [hll]; exact hb2, hpl.off hPV.ne hoff hk2, hPV.lo, hPV.ne, hoff⟩⟩
   by_cases hz : n = 0
   ·subst hz
    have hL0 : L = [] := List.eq_nil_of_length_eq_zero hLn
    have hown := hPV.pl.own
    rw [HN.out] at hown
    refine (deleteK_nil p cp w.heap.size now V.drew htb).mono ?_
    rintro e w' ⟨rfl, hb'⟩
    refine ⟨0, rfl, fin 0 w' ?_ (grown_of _ hb')⟩
    rw [hL0] at hown ⊢
    exact ownB hown hb'
   ·obtain ⟨g, rfl⟩ : ∃ g, p = some ⟨g, 0, none⟩ := by
     rcases hPV.pl.own.2 with ⟨_, h0⟩ | ⟨g, cap, cur, h1, _⟩
     ·have := HN.out; omega
     ·simp only [Value.slice.injEq] at h1
      exact ⟨g, h1.1⟩
    have hown := hPV.pl.own
    rw [HN.out] at hown
    refine (deleteK B w.heap.size now g n cp L V.drew hown hn (by omega) htb (by have := (H.out.2.2.2.2.pl.own.lt g rfl).2; omega)).mono ?_
    rintro e w' ⟨r, rfl, HH⟩
    exact ⟨r, rfl, fin r w' HH.out.1 HH.out.2⟩
  obtain ⟨b0, b1, b2, b3⟩ := plBox hPV.box
  rw [HN.out] at b1
  have HBX := Shut.mk hPV.box
  clear hV hbV hoV hBV hVd hPV hBVd htb hLn a0 f2
  go_wp2_with fail
  refine hDel.mono ?_
  rintro e w5 ⟨r, rfl, H5⟩
  clear hDel
  have h5 : w5.heap[gp]? = some (.cells #[.int .i64 me, .slice p n cp, .int .i64 now, .int .i64 sq] 25 (0, 0)) := by
   rw [H5.out.2.1, HBX.out, HN.out]
  clear b0 b1 b2 b3
  obtain ⟨b0, b1, b2, b3⟩ := plBox h5
  have f1 := frzB h5 1
  go_upto_region 5 with fail
  obtain ⟨V2, hV2, hbV2, hoV2, hBV2⟩ := setK4 w5 gp 25 _ _ _ _ (.slice p r cp) h5
  have R : Shut (DoR B gp w 0 ⟨me, l.filter fun k => !decide (k.h.L ≤ now), now, sq⟩ V2) := ⟨hBV2 B w H.out.1.lo H5.out.2.2.1, fun _ => ⟨_, p, cp, H5.out.2.2.2 V2 hbV2 hoV2⟩⟩
  rw [hV2]
  clear hV2 hbV2 hoV2 hBV2 h5 b0 b1 b2 b3 f1 H5
  go_wp2
  go_ret
  rw [HR.out]
  exact ⟨rfl, R⟩

end Go.Proofs.YtakkajjoeimkdaaGreatDoor
