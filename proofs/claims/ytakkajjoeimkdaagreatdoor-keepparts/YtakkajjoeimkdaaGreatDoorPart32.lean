import Derived.Test.YtakkajjoeimkdaaGreatDoorPart31
import Derived.Test.YtakkajjoeimkdaaGreatDoorPart1
import Derived.Laws.BytesString
import Derived.Laws.Cells
import Derived.Test.YtakkajjoeimkdaaGreatDoorPart3
import Derived.Test.YtakkajjoeimkdaaGreatDoorPart2
import Derived.Shelf.Strings.BuilderK
namespace Go.Proofs.YtakkajjoeimkdaaGreatDoor
open Go.RowKit
set_option linter.unusedVariables false
set_option linter.unusedSimpArgs false

set_option maxHeartbeats 4000000 in
set_option maxRecDepth 16000 in
theorem equalKp_anyR5 (x : MKp) (b o k n c : Nat) (u0 u1 u2 u3 u4 u5 u6 u7 u8 u9 u10 u11 u12 u13 u14 u16 u18 u19 u20 u21 u22 u23 u24 u25 u26 u27 u28 u29 u30 u31 : Value) (w : World) (Q : Exit → Act → World → Prop) (hk : k < n) (hx : Shut (∀ (j : Nat) (v : Value), [.int .i64 x.k.h.F, .int .i64 x.k.h.Q, .int .i64 x.k.h.T, .int .i64 x.k.h.L, .int .i64 x.k.h.B, .int .i64 x.k.h.K, .bool x.k.own, .slice x.ca x.k.c.length x.cc, .slice x.ya x.ys.length x.yc, .int .i64 x.k.sh, .int .i64 x.k.gv, .int .i64 x.k.tw, .int .i64 x.k.tr, .slice x.ta x.k.tk.length x.tc, .bool x.k.dl, .bool x.k.pg][j]? = some v → w.cell? ⟨b, o + k * 16 + j, none⟩ = some v))
  (hQ : Shut (∀ v19 v20 v21 : Value, Q .normal ⟨#[u0, u1, u2, u3, u4, u5, u6, .int .i64 (k : Int), .pointer (some ⟨w.heap.size, 0, none⟩), u9, u10, u11, u12, u13, u14, .slice (some ⟨b, o, none⟩) n c, u16, .int .i64 (k : Int), u18, v19, v20, v21, u22, u23, u24, u25, u26, u27, u28, u29, u30, u31], []⟩ (w.alloc (.cells #[.int .i64 x.k.h.F, .int .i64 x.k.h.Q, .int .i64 x.k.h.T, .int .i64 x.k.h.L, .int .i64 x.k.h.B, .int .i64 x.k.h.K, .bool x.k.own, .slice x.ca x.k.c.length x.cc, .slice x.ya x.ys.length x.yc, .int .i64 x.k.sh, .int .i64 x.k.gv, .int .i64 x.k.tw, .int .i64 x.k.tr, .slice x.ta x.k.tk.length x.tc, .bool x.k.dl, .bool x.k.pg] 88)))) :
  Code.wp Tryz.prog (Code.region 5 #[{ dst := some 19, op := Op.move (Operand.tmp 17), type := 3, pos := "slices.go:41", after := #[], guard := none }, { dst := some 20, op := Op.indexAddr 23 (Operand.tmp 15) (Operand.tmp 17), type := 0, pos := "slices.go:41", after := #[], guard := none }, { dst := some 21, op := Op.load 88 (Operand.tmp 20), type := 88, pos := "slices.go:41", after := #[{ on := 1, ground := Ground.data }], guard := none }, { dst := some 8, op := Op.alloc 88, type := 0, pos := "slices.go:41", after := #[], guard := none }, { dst := some 7, op := Op.assign (Operand.tmp 19), type := 3, pos := "slices.go:41", after := #[{ on := 0, ground := Ground.data }, { on := 0, ground := Ground.phase }, { on := 1, ground := Ground.phase }, { on := 2, ground := Ground.phase }, { on := 3, ground := Ground.phase }], guard := none }, { dst := none, op := Op.store 88 (Operand.tmp 8) (Operand.tmp 21), type := 0, pos := "slices.go:41", after := #[{ on := 3, ground := Ground.data }, { on := 2, ground := Ground.data }, { on := 4, ground := Ground.chain }, { on := 0, ground := Ground.phase }, { on := 1, ground := Ground.phase }, { on := 2, ground := Ground.phase }, { on := 3, ground := Ground.phase }, { on := 4, ground := Ground.phase }], guard := none }] false) Q ⟨#[u0, u1, u2, u3, u4, u5, u6, u7, u8, u9, u10, u11, u12, u13, u14, .slice (some ⟨b, o, none⟩) n c, u16, .int .i64 (k : Int), u18, u19, u20, u21, u22, u23, u24, u25, u26, u27, u28, u29, u30, u31], []⟩ w := by
 have p0 : w.cell? ⟨b, o + k * 16, none⟩ = some (.int .i64 x.k.h.F) := hx.out 0 _ rfl
 have p1 : w.cell? ⟨b, o + k * 16 + 1, none⟩ = some (.int .i64 x.k.h.Q) := hx.out 1 _ rfl
 have p2 : w.cell? ⟨b, o + k * 16 + 2, none⟩ = some (.int .i64 x.k.h.T) := hx.out 2 _ rfl
 have p3 : w.cell? ⟨b, o + k * 16 + 3, none⟩ = some (.int .i64 x.k.h.L) := hx.out 3 _ rfl
 have p4 : w.cell? ⟨b, o + k * 16 + 4, none⟩ = some (.int .i64 x.k.h.B) := hx.out 4 _ rfl
 have p5 : w.cell? ⟨b, o + k * 16 + 5, none⟩ = some (.int .i64 x.k.h.K) := hx.out 5 _ rfl
 have p6 : w.cell? ⟨b, o + k * 16 + 6, none⟩ = some (.bool x.k.own) := hx.out 6 _ rfl
 have p7 : w.cell? ⟨b, o + k * 16 + 7, none⟩ = some (.slice x.ca x.k.c.length x.cc) := hx.out 7 _ rfl
 have p8 : w.cell? ⟨b, o + k * 16 + 8, none⟩ = some (.slice x.ya x.ys.length x.yc) := hx.out 8 _ rfl
 have p9 : w.cell? ⟨b, o + k * 16 + 9, none⟩ = some (.int .i64 x.k.sh) := hx.out 9 _ rfl
 have p10 : w.cell? ⟨b, o + k * 16 + 10, none⟩ = some (.int .i64 x.k.gv) := hx.out 10 _ rfl
 have p11 : w.cell? ⟨b, o + k * 16 + 11, none⟩ = some (.int .i64 x.k.tw) := hx.out 11 _ rfl
 have p12 : w.cell? ⟨b, o + k * 16 + 12, none⟩ = some (.int .i64 x.k.tr) := hx.out 12 _ rfl
 have p13 : w.cell? ⟨b, o + k * 16 + 13, none⟩ = some (.slice x.ta x.k.tk.length x.tc) := hx.out 13 _ rfl
 have p14 : w.cell? ⟨b, o + k * 16 + 14, none⟩ = some (.bool x.k.dl) := hx.out 14 _ rfl
 have p15 : w.cell? ⟨b, o + k * 16 + 15, none⟩ = some (.bool x.k.pg) := hx.out 15 _ rfl
 have hk1 : (k : Int) < (n : Int) := by omega
 go_wp2
 exact hQ.out _ _ _

set_option maxHeartbeats 4000000 in
set_option maxRecDepth 16000 in
theorem equalKp_anyR6 (x : MKp) (b o k n c : Nat) (u0 u2 u3 u4 u5 u6 u8 u9 u10 u11 u12 u13 u14 u15 u16 u17 u18 u19 u20 u21 u22 u23 u24 u25 u26 u27 u28 u29 u30 u31 : Value) (w : World) (Q : Exit → Act → World → Prop) (hk : k < n) (hx : Shut (∀ (j : Nat) (v : Value), [.int .i64 x.k.h.F, .int .i64 x.k.h.Q, .int .i64 x.k.h.T, .int .i64 x.k.h.L, .int .i64 x.k.h.B, .int .i64 x.k.h.K, .bool x.k.own, .slice x.ca x.k.c.length x.cc, .slice x.ya x.ys.length x.yc, .int .i64 x.k.sh, .int .i64 x.k.gv, .int .i64 x.k.tw, .int .i64 x.k.tr, .slice x.ta x.k.tk.length x.tc, .bool x.k.dl, .bool x.k.pg][j]? = some v → w.cell? ⟨b, o + k * 16 + j, none⟩ = some v))
  (hQ : Shut (∀ v22 v23 v24 v25 : Value, Q .normal ⟨#[u0, .slice (some ⟨b, o, none⟩) n c, u2, u3, u4, u5, u6, .int .i64 (k : Int), u8, .pointer (some ⟨w.heap.size, 0, none⟩), u10, u11, u12, u13, u14, u15, u16, u17, u18, u19, u20, u21, v22, v23, v24, v25, u26, u27, u28, u29, u30, u31], []⟩ (w.alloc (.cells #[.int .i64 x.k.h.F, .int .i64 x.k.h.Q, .int .i64 x.k.h.T, .int .i64 x.k.h.L, .int .i64 x.k.h.B, .int .i64 x.k.h.K, .bool x.k.own, .slice x.ca x.k.c.length x.cc, .slice x.ya x.ys.length x.yc, .int .i64 x.k.sh, .int .i64 x.k.gv, .int .i64 x.k.tw, .int .i64 x.k.tr, .slice x.ta x.k.tk.length x.tc, .bool x.k.dl, .bool x.k.pg] 88)))) :
  Code.wp Tryz.prog (Code.region 6 #[{ dst := some 22, op := Op.move (Operand.tmp 1), type := 23, pos := "slices.go:42", after := #[], guard := none }, { dst := some 23, op := Op.move (Operand.tmp 7), type := 3, pos := "slices.go:42", after := #[], guard := none }, { dst := some 24, op := Op.indexAddr 23 (Operand.tmp 22) (Operand.tmp 23), type := 0, pos := "slices.go:42", after := #[{ on := 0, ground := Ground.data }, { on := 1, ground := Ground.data }], guard := none }, { dst := some 25, op := Op.load 88 (Operand.tmp 24), type := 88, pos := "slices.go:42", after := #[{ on := 2, ground := Ground.data }], guard := none }, { dst := some 9, op := Op.alloc 88, type := 0, pos := "slices.go:42", after := #[], guard := none }, { dst := none, op := Op.store 88 (Operand.tmp 9) (Operand.tmp 25), type := 0, pos := "slices.go:42", after := #[{ on := 4, ground := Ground.data }, { on := 3, ground := Ground.data }, { on := 0, ground := Ground.phase }, { on := 1, ground := Ground.phase }, { on := 2, ground := Ground.phase }, { on := 3, ground := Ground.phase }, { on := 4, ground := Ground.phase }], guard := none }] false) Q ⟨#[u0, .slice (some ⟨b, o, none⟩) n c, u2, u3, u4, u5, u6, .int .i64 (k : Int), u8, u9, u10, u11, u12, u13, u14, u15, u16, u17, u18, u19, u20, u21, u22, u23, u24, u25, u26, u27, u28, u29, u30, u31], []⟩ w := by
 have p0 : w.cell? ⟨b, o + k * 16, none⟩ = some (.int .i64 x.k.h.F) := hx.out 0 _ rfl
 have p1 : w.cell? ⟨b, o + k * 16 + 1, none⟩ = some (.int .i64 x.k.h.Q) := hx.out 1 _ rfl
 have p2 : w.cell? ⟨b, o + k * 16 + 2, none⟩ = some (.int .i64 x.k.h.T) := hx.out 2 _ rfl
 have p3 : w.cell? ⟨b, o + k * 16 + 3, none⟩ = some (.int .i64 x.k.h.L) := hx.out 3 _ rfl
 have p4 : w.cell? ⟨b, o + k * 16 + 4, none⟩ = some (.int .i64 x.k.h.B) := hx.out 4 _ rfl
 have p5 : w.cell? ⟨b, o + k * 16 + 5, none⟩ = some (.int .i64 x.k.h.K) := hx.out 5 _ rfl
 have p6 : w.cell? ⟨b, o + k * 16 + 6, none⟩ = some (.bool x.k.own) := hx.out 6 _ rfl
 have p7 : w.cell? ⟨b, o + k * 16 + 7, none⟩ = some (.slice x.ca x.k.c.length x.cc) := hx.out 7 _ rfl
 have p8 : w.cell? ⟨b, o + k * 16 + 8, none⟩ = some (.slice x.ya x.ys.length x.yc) := hx.out 8 _ rfl
 have p9 : w.cell? ⟨b, o + k * 16 + 9, none⟩ = some (.int .i64 x.k.sh) := hx.out 9 _ rfl
 have p10 : w.cell? ⟨b, o + k * 16 + 10, none⟩ = some (.int .i64 x.k.gv) := hx.out 10 _ rfl
 have p11 : w.cell? ⟨b, o + k * 16 + 11, none⟩ = some (.int .i64 x.k.tw) := hx.out 11 _ rfl
 have p12 : w.cell? ⟨b, o + k * 16 + 12, none⟩ = some (.int .i64 x.k.tr) := hx.out 12 _ rfl
 have p13 : w.cell? ⟨b, o + k * 16 + 13, none⟩ = some (.slice x.ta x.k.tk.length x.tc) := hx.out 13 _ rfl
 have p14 : w.cell? ⟨b, o + k * 16 + 14, none⟩ = some (.bool x.k.dl) := hx.out 14 _ rfl
 have p15 : w.cell? ⟨b, o + k * 16 + 15, none⟩ = some (.bool x.k.pg) := hx.out 15 _ rfl
 have hk1 : (k : Int) < (n : Int) := by omega
 go_wp2
 exact hQ.out _ _ _ _

set_option maxHeartbeats 4000000 in
set_option maxRecDepth 16000 in
theorem equalKp_anyR7 (x y : MKp) (f g1 g2 : Nat) (z : Bool) (eg : ∀ args w, (callFunc f args).run Tryz.prog w = .ok (.enter f args) w) (u0 u1 u3 u4 u5 u6 u7 u10 u11 u12 u13 u14 u15 u16 u17 u18 u19 u20 u21 u22 u23 u24 u25 u26 u27 u28 u29 u30 u31 : Value) (w : World) (Q : Exit → Act → World → Prop)
  (h1 : Shut (w.heap[g1]? = some (.cells #[.int .i64 x.k.h.F, .int .i64 x.k.h.Q, .int .i64 x.k.h.T, .int .i64 x.k.h.L, .int .i64 x.k.h.B, .int .i64 x.k.h.K, .bool x.k.own, .slice x.ca x.k.c.length x.cc, .slice x.ya x.ys.length x.yc, .int .i64 x.k.sh, .int .i64 x.k.gv, .int .i64 x.k.tw, .int .i64 x.k.tr, .slice x.ta x.k.tk.length x.tc, .bool x.k.dl, .bool x.k.pg] 88 (0, 0)))) (h2 : Shut (w.heap[g2]? = some (.cells #[.int .i64 y.k.h.F, .int .i64 y.k.h.Q, .int .i64 y.k.h.T, .int .i64 y.k.h.L, .int .i64 y.k.h.B, .int .i64 y.k.h.K, .bool y.k.own, .slice y.ca y.k.c.length y.cc, .slice y.ya y.ys.length y.yc, .int .i64 y.k.sh, .int .i64 y.k.gv, .int .i64 y.k.tw, .int .i64 y.k.tr, .slice y.ta y.k.tk.length y.tc, .bool y.k.dl, .bool y.k.pg] 88 (0, 0))))
  (hC : Calls Tryz.prog f #[.agg #[.int .i64 x.k.h.F, .int .i64 x.k.h.Q, .int .i64 x.k.h.T, .int .i64 x.k.h.L, .int .i64 x.k.h.B, .int .i64 x.k.h.K, .bool x.k.own, .slice x.ca x.k.c.length x.cc, .slice x.ya x.ys.length x.yc, .int .i64 x.k.sh, .int .i64 x.k.gv, .int .i64 x.k.tw, .int .i64 x.k.tr, .slice x.ta x.k.tk.length x.tc, .bool x.k.dl, .bool x.k.pg], .agg #[.int .i64 y.k.h.F, .int .i64 y.k.h.Q, .int .i64 y.k.h.T, .int .i64 y.k.h.L, .int .i64 y.k.h.B, .int .i64 y.k.h.K, .bool y.k.own, .slice y.ca y.k.c.length y.cc, .slice y.ya y.ys.length y.yc, .int .i64 y.k.sh, .int .i64 y.k.gv, .int .i64 y.k.tw, .int .i64 y.k.tr, .slice y.ta y.k.tk.length y.tc, .bool y.k.dl, .bool y.k.pg]] w fun e w' => e = .returned (.bool z) ∧ Below w.heap.size w w')
  (hQ : Shut (∀ (w' : World) (v26 v27 v28 : Value), Below w.heap.size w w' → Q .normal ⟨#[u0, u1, .func (.func f) #[] #[], u3, u4, u5, u6, u7, .pointer (some ⟨g1, 0, none⟩), .pointer (some ⟨g2, 0, none⟩), u10, u11, u12, u13, u14, u15, u16, u17, u18, u19, u20, u21, u22, u23, u24, u25, v26, v27, v28, .bool z, .bool (!z), u31], []⟩ w')) :
  Code.wp Tryz.prog (Code.region 7 #[{ dst := some 26, op := Op.move (Operand.tmp 2), type := 104, pos := "slices.go:43", after := #[], guard := none }, { dst := some 27, op := Op.load 88 (Operand.tmp 8), type := 88, pos := "slices.go:43", after := #[], guard := none }, { dst := some 28, op := Op.load 88 (Operand.tmp 9), type := 88, pos := "slices.go:43", after := #[], guard := none }, { dst := some 29, op := Op.call { callee := Callee.value (Operand.tmp 26), args := #[Operand.tmp 27, Operand.tmp 28], argTypes := #[88, 88] }, type := 4, pos := "slices.go:43", after := #[{ on := 0, ground := Ground.data }, { on := 1, ground := Ground.data }, { on := 2, ground := Ground.data }], guard := none }, { dst := some 30, op := Op.unOp UnOp.not 4 (Operand.tmp 29), type := 4, pos := "slices.go:43", after := #[{ on := 3, ground := Ground.data }], guard := none }] false) Q ⟨#[u0, u1, .func (.func f) #[] #[], u3, u4, u5, u6, u7, .pointer (some ⟨g1, 0, none⟩), .pointer (some ⟨g2, 0, none⟩), u10, u11, u12, u13, u14, u15, u16, u17, u18, u19, u20, u21, u22, u23, u24, u25, u26, u27, u28, u29, u30, u31], []⟩ w := by
 obtain ⟨p0, p1, p2, p3, p4, p5, p6, p7, p8, p9, p10, p11, p12, p13, p14, p15⟩ := bx16 h1.out
 obtain ⟨q0, q1, q2, q3, q4, q5, q6, q7, q8, q9, q10, q11, q12, q13, q14, q15⟩ := bx16 h2.out
 go_wp2_with fail
 refine hC.mono ?_
 rintro e W3 ⟨rfl, hb⟩
 have R := Shut.mk hb
 clear hC hb h1 h2 p0 q0 p1 q1 p2 q2 p3 q3 p4 q4 p5 q5 p6 q6 p7 q7 p8 q8 p9 q9 p10 q10 p11 q11 p12 q12 p13 q13 p14 q14 p15 q15
 go_wp2
 exact hQ.out _ _ _ _ R.out

set_option maxHeartbeats 4000000 in
set_option maxRecDepth 8000 in
theorem equalKp_any (f : Nat) (eg : ∀ args w, (callFunc f args).run Tryz.prog w = .ok (.enter f args) w)
  (hf : ∀ (x y : MKp) (w : World), KpSame w x → KpSame w y → Calls Tryz.prog f #[.agg #[.int .i64 x.k.h.F, .int .i64 x.k.h.Q, .int .i64 x.k.h.T, .int .i64 x.k.h.L, .int .i64 x.k.h.B, .int .i64 x.k.h.K, .bool x.k.own, .slice x.ca x.k.c.length x.cc, .slice x.ya x.ys.length x.yc, .int .i64 x.k.sh, .int .i64 x.k.gv, .int .i64 x.k.tw, .int .i64 x.k.tr, .slice x.ta x.k.tk.length x.tc, .bool x.k.dl, .bool x.k.pg], .agg #[.int .i64 y.k.h.F, .int .i64 y.k.h.Q, .int .i64 y.k.h.T, .int .i64 y.k.h.L, .int .i64 y.k.h.B, .int .i64 y.k.h.K, .bool y.k.own, .slice y.ca y.k.c.length y.cc, .slice y.ya y.ys.length y.yc, .int .i64 y.k.sh, .int .i64 y.k.gv, .int .i64 y.k.tw, .int .i64 y.k.tr, .slice y.ta y.k.tk.length y.tc, .bool y.k.dl, .bool y.k.pg]] w fun e w' => e = .returned (.bool (decide (MKp.k x = MKp.k y))) ∧ Below w.heap.size w w')
  (a b : Option Addr) (ca cb : Nat) (xl yl : List MKp) (w : World) (hx : xl.length ≤ maxLen) (hy : yl.length ≤ maxLen) (ha : Lies w a (kpCells xl)) (hb : Lies w b (kpCells yl)) (hxa : ∀ y ∈ xl, KpSame w y) (hya : ∀ y ∈ yl, KpSame w y) :
  Calls Tryz.prog 43 #[.slice a xl.length ca, .slice b yl.length cb, .func (.func f) #[] #[]] w fun e w' => e = .returned (.bool (decide (xl.map (fun x => MKp.k x) = yl.map (fun x => MKp.k x)))) ∧ Below w.heap.size w w' := by
 obtain ⟨N, hN⟩ : ∃ N, decide (xl.map (fun x => MKp.k x) = yl.map (fun x => MKp.k x)) = N := ⟨_, rfl⟩
 rw [hN]
 have sN := Shut.mk hN
 have HF := Shut.mk hf
 clear hN hf
 by_cases hl : xl.length = yl.length
 ·obtain ⟨n, hn⟩ : ∃ n, xl.length = n := ⟨_, rfl⟩
  have hn2 : yl.length = n := by omega
  have HL := Shut.mk (And.intro hn (And.intro hn2 (And.intro ha (And.intro hb (And.intro hxa hya)))))
  rw [hn, hn2]
  rw [hn] at hx
  unfold maxLen at hx
  clear hl hn hn2 hy ha hb hxa hya
  go_enter Tryz.func43, Tryz.ntmps43
  go_wp2
  go_loopw [17] (fun i wr => ∃ k : Nat, k ≤ n ∧ i = .int .i64 k ∧ Shut ((xl.map (fun x => MKp.k x)).take k = (yl.map (fun x => MKp.k x)).take k ∧ Below w.heap.size w wr)) (fun i _ => n - (intOf i).toNat)
  case atStart => exact ⟨0, Nat.zero_le _, rfl, ⟨rfl, Below.refl _ _⟩⟩
  case round =>
   obtain ⟨k, hk, rfl, HI⟩ := hrel
   by_cases hlt : k < n
   ·obtain ⟨htk, hbr⟩ := HI.out
    obtain ⟨b1, o1, e1⟩ := HL.out.2.2.1.some (k := 0) (by rw [kpCells_length, HL.out.1]; omega)
    obtain ⟨b2, o2, e2⟩ := HL.out.2.2.2.1.some (k := 0) (by rw [kpCells_length, HL.out.2.1]; omega)
    obtain ⟨x, hxk⟩ : ∃ x, xl[k]? = some x := ⟨_, List.getElem?_eq_getElem (by rw [HL.out.1]; exact hlt)⟩
    obtain ⟨y, hyk⟩ : ∃ y, yl[k]? = some y := ⟨_, List.getElem?_eq_getElem (by rw [HL.out.2.1]; exact hlt)⟩
    have hla := HL.out.2.2.1.below hbr (Nat.le_refl _)
    have hlb := HL.out.2.2.2.1.below hbr (Nat.le_refl _)
    rw [e1] at hla
    rw [e2] at hlb
    have h1 : Shut (∀ (j : Nat) (v : Value), [.int .i64 x.k.h.F, .int .i64 x.k.h.Q, .int .i64 x.k.h.T, .int .i64 x.k.h.L, .int .i64 x.k.h.B, .int .i64 x.k.h.K, .bool x.k.own, .slice x.ca x.k.c.length x.cc, .slice x.ya x.ys.length x.yc, .int .i64 x.k.sh, .int .i64 x.k.gv, .int .i64 x.k.tw, .int .i64 x.k.tr, .slice x.ta x.k.tk.length x.tc, .bool x.k.dl, .bool x.k.pg][j]? = some v → wr.cell? ⟨b1, o1 + k * 16 + j, none⟩ = some v) := ⟨fun j v hv => kp_cell (And.intro hla hxk) j hv⟩
    have HK : Shut ((xl.map (fun x => MKp.k x)).take k = (yl.map (fun x => MKp.k x)).take k ∧ xl[k]? = some x ∧ yl[k]? = some y) := ⟨htk, hxk, hyk⟩
    have HB := Shut.mk hbr
    have HY := Shut.mk hlb
    clear htk hxk hyk HI hla hlb hbr
    rw [e1, e2]
    go_upto_region 5 with fail
    refine equalKp_anyR5 x b1 o1 k n ca _ _ _ _ _ _ _ _ _ _ _ _ _ _ _ _ _ _ _ _ _ _ _ _ _ _ _ _ _ _ wr _ hlt h1 ⟨?_⟩
    intro v19 v20 v21
    generalize hW1 : wr.alloc (.cells #[.int .i64 x.k.h.F, .int .i64 x.k.h.Q, .int .i64 x.k.h.T, .int .i64 x.k.h.L, .int .i64 x.k.h.B, .int .i64 x.k.h.K, .bool x.k.own, .slice x.ca x.k.c.length x.cc, .slice x.ya x.ys.length x.yc, .int .i64 x.k.sh, .int .i64 x.k.gv, .int .i64 x.k.tw, .int .i64 x.k.tr, .slice x.ta x.k.tk.length x.tc, .bool x.k.dl, .bool x.k.pg] 88) = W1
    have hb1 : Below wr.heap.size wr W1 := by rw [← hW1]; exact (Below.refl _ _).alloc (Nat.le_refl _) _
    have hq1 : Shut (W1.heap[wr.heap.size]? = some (.cells #[.int .i64 x.k.h.F, .int .i64 x.k.h.Q, .int .i64 x.k.h.T, .int .i64 x.k.h.L, .int .i64 x.k.h.B, .int .i64 x.k.h.K, .bool x.k.own, .slice x.ca x.k.c.length x.cc, .slice x.ya x.ys.length x.yc, .int .i64 x.k.sh, .int .i64 x.k.gv, .int .i64 x.k.tw, .int .i64 x.k.tr, .slice x.ta x.k.tk.length x.tc, .bool x.k.dl, .bool x.k.pg] 88 (0, 0))) := ⟨by rw [← hW1, heap_alloc_eq, if_pos rfl]⟩
    have hlb1 := HY.out.below hb1 (Nat.le_refl _)
    have h3 : Shut (∀ (j : Nat) (v : Value), [.int .i64 y.k.h.F, .int .i64 y.k.h.Q, .int .i64 y.k.h.T, .int .i64 y.k.h.L, .int .i64 y.k.h.B, .int .i64 y.k.h.K, .bool y.k.own, .slice y.ca y.k.c.length y.cc, .slice y.ya y.ys.length y.yc, .int .i64 y.k.sh, .int .i64 y.k.gv, .int .i64 y.k.tw, .int .i64 y.k.tr, .slice y.ta y.k.tk.length y.tc, .bool y.k.dl, .bool y.k.pg][j]? = some v → W1.cell? ⟨b2, o2 + k * 16 + j, none⟩ = some v) := ⟨fun j v hv => kp_cell (And.intro hlb1 HK.out.2.2) j hv⟩
    have HB1 := Shut.mk (HB.out.trans (hb1.mono HB.out.size))
    clear hW1 h1 hb1 hlb1 HY
    go_upto_region 6 with fail
    refine equalKp_anyR6 y b2 o2 k n cb _ _ _ _ _ _ _ _ _ _ _ _ _ _ _ _ _ _ _ _ _ _ _ _ _ _ _ _ _ _ W1 _ hlt h3 ⟨?_⟩
    intro v22 v23 v24 v25
    generalize hW2 : W1.alloc (.cells #[.int .i64 y.k.h.F, .int .i64 y.k.h.Q, .int .i64 y.k.h.T, .int .i64 y.k.h.L, .int .i64 y.k.h.B, .int .i64 y.k.h.K, .bool y.k.own, .slice y.ca y.k.c.length y.cc, .slice y.ya y.ys.length y.yc, .int .i64 y.k.sh, .int .i64 y.k.gv, .int .i64 y.k.tw, .int .i64 y.k.tr, .slice y.ta y.k.tk.length y.tc, .bool y.k.dl, .bool y.k.pg] 88) = W2
    have hb2 : Below W1.heap.size W1 W2 := by rw [← hW2]; exact (Below.refl _ _).alloc (Nat.le_refl _) _
    have hq2 : Shut (W2.heap[W1.heap.size]? = some (.cells #[.int .i64 y.k.h.F, .int .i64 y.k.h.Q, .int .i64 y.k.h.T, .int .i64 y.k.h.L, .int .i64 y.k.h.B, .int .i64 y.k.h.K, .bool y.k.own, .slice y.ca y.k.c.length y.cc, .slice y.ya y.ys.length y.yc, .int .i64 y.k.sh, .int .i64 y.k.gv, .int .i64 y.k.tw, .int .i64 y.k.tr, .slice y.ta y.k.tk.length y.tc, .bool y.k.dl, .bool y.k.pg] 88 (0, 0))) := ⟨by rw [← hW2, heap_alloc_eq, if_pos rfl]⟩
    have hq3 := Shut.mk (blkB hq1.out hb2)
    have hB2 := HB1.out.trans (hb2.mono HB1.out.size)
    have hC := HF.out x y W2 ((HL.out.2.2.2.2.1 x (List.mem_of_getElem? HK.out.2.1)).below hB2) ((HL.out.2.2.2.2.2 y (List.mem_of_getElem? HK.out.2.2)).below hB2)
    have HB2 := Shut.mk hB2
    clear hW2 h3 hb2 hB2 hq1
    obtain ⟨z, hz⟩ : ∃ z, decide (MKp.k x = MKp.k y) = z := ⟨_, rfl⟩
    rw [hz] at hC
    have HZ := Shut.mk hz
    clear hz
    go_upto_region 7 with fail
    refine equalKp_anyR7 x y f wr.heap.size W1.heap.size z eg _ _ _ _ _ _ _ _ _ _ _ _ _ _ _ _ _ _ _ _ _ _ _ _ _ _ _ _ _ W2 _ hq3 hq2 hC ⟨?_⟩
    intro W3 v26 v27 v28 hb3
    have HB3 := Shut.mk (HB2.out.trans (hb3.mono HB2.out.size))
    clear hC hb3 hq2 hq3
    cases z with
    | true =>
     have R : Shut ((xl.map (fun x => MKp.k x)).take (k + 1) = (yl.map (fun x => MKp.k x)).take (k + 1) ∧ Below w.heap.size w W3) := ⟨by
      have hd : MKp.k x = MKp.k y := by simpa using HZ.out
      rw [List.take_add_one, List.take_add_one, HK.out.1, List.getElem?_map, List.getElem?_map, HK.out.2.1, HK.out.2.2]
      simp [hd], HB3.out⟩
     go_wp2
     go_roundw
     case rel => exact ⟨k + 1, by omega, by go_num, R⟩
     case measure => simp [intOf]; omega
    | false =>
     have HD : Shut (N = false) := ⟨by
      have hd : ¬ MKp.k x = MKp.k y := by simpa using HZ.out
      rw [← sN.out]
      refine decide_eq_false fun e => hd ?_
      have h1 : (xl.map (fun x => MKp.k x))[k]? = (yl.map (fun x => MKp.k x))[k]? := by rw [e]
      rw [List.getElem?_map, List.getElem?_map, HK.out.2.1, HK.out.2.2] at h1
      simpa using h1⟩
     go_wp2
     go_ret
     exact ⟨by rw [HD.out]; rfl, HB3.out⟩
   ·have HD : Shut (N = true ∧ Below w.heap.size w wr) := ⟨by
     obtain ⟨htk, hbr⟩ := HI.out
     refine ⟨?_, hbr⟩
     rw [← sN.out]
     refine decide_eq_true ?_
     rw [List.take_of_length_le (by rw [List.length_map, HL.out.1]; omega), List.take_of_length_le (by rw [List.length_map, HL.out.2.1]; omega)] at htk
     exact htk⟩
    clear HI
    go_wp2
    go_ret
    exact ⟨by rw [HD.out.1]; rfl, HD.out.2⟩
 ·have hne : ((xl.length : Int) != (yl.length : Int)) = true := by simp; omega
  have HD : Shut (N = false) := ⟨by rw [← sN.out]; exact decide_eq_false fun e => hl (by have := congrArg List.length e; simpa using this)⟩
  clear hl ha hb
  go_enter Tryz.func43, Tryz.ntmps43
  go_wp2
  go_ret
  exact ⟨by rw [HD.out]; rfl, Below.refl _ _⟩

theorem plEq {a b : Pl} : a = b ↔ a.me = b.me ∧ a.tm = b.tm ∧ a.sq = b.sq ∧ a.kp = b.kp := by
 obtain ⟨a0, a1, a2, a3⟩ := a
 obtain ⟨b0, b1, b2, b3⟩ := b
 simp only [Pl.mk.injEq]
 exact ⟨fun h => ⟨h.1, h.2.2.1, h.2.2.2, h.2.1⟩, fun h => ⟨h.1, h.2.2.2, h.2.1, h.2.2.1⟩⟩

structure PlSame (w : World) (P : Pl) (L : List MKp) (p : Option Addr) (n : Nat) : Prop where
 says : L.map MKp.k = P.kp
 lies : Lies w p (kpCells L)
 all : ∀ m ∈ L, KpSame w m
 len : L.length = n
 few : n ≤ maxLen

theorem PlSame.below {w w' : World} {P : Pl} {L : List MKp} {p : Option Addr} {n : Nat} (h : PlSame w P L p n) (hb : Below w.heap.size w w') : PlSame w' P L p n :=
 ⟨h.says, h.lies.below hb (Nat.le_refl _), fun m hm => (h.all m hm).below hb, h.len, h.few⟩

set_option maxHeartbeats 4000000 in
set_option maxRecDepth 8000 in
theorem keepSame_any (P Q : Pl) (L L' : List MKp) (p p' : Option Addr) (n n' c c' : Nat) (w : World) (h : PlSame w P L p n) (h' : PlSame w Q L' p' n') :
  Calls Tryz.prog 16 #[.agg #[.int .i64 P.me, .slice p n c, .int .i64 P.tm, .int .i64 P.sq], .agg #[.int .i64 Q.me, .slice p' n' c', .int .i64 Q.tm, .int .i64 Q.sq]] w fun e w' => ∃ z : Bool, e = .returned (.bool z) ∧ Shut ((z = true ↔ P = Q) ∧ Below w.heap.size w w') := by
 obtain ⟨W, hW⟩ : ∃ W, (w.alloc (.cells #[.int .i64 P.me, .slice p n c, .int .i64 P.tm, .int .i64 P.sq] 25)).alloc (.cells #[.int .i64 Q.me, .slice p' n' c', .int .i64 Q.tm, .int .i64 Q.sq] 25) = W := ⟨_, rfl⟩
 have hB : Below w.heap.size w W := by rw [← hW]; exact ((Below.refl _ _).alloc (Nat.le_refl _) _).alloc (by simp) _
 have hk : W.heap[w.heap.size]? = some (.cells #[.int .i64 P.me, .slice p n c, .int .i64 P.tm, .int .i64 P.sq] 25 (0, 0)) := by rw [← hW, heap_alloc_eq, if_neg (by simp), heap_alloc_eq, if_pos rfl]
 have hk' : W.heap[w.heap.size + 1]? = some (.cells #[.int .i64 Q.me, .slice p' n' c', .int .i64 Q.tm, .int .i64 Q.sq] 25 (0, 0)) := by rw [← hW, heap_alloc_eq, if_pos (by simp)]
 have HW := Shut.mk hW
 clear hW
 have hC := equalKp_any 44 (enters_of Tryz.func44 (by kernel_rfl) rfl) sameKept_any p p' c c' L L' W (by rw [h.len]; exact h.few) (by rw [h'.len]; exact h'.few) (h.lies.below hB (Nat.le_refl _)) (h'.lies.below hB (Nat.le_refl _)) (fun m hm => (h.all m hm).below hB) (fun m hm => (h'.all m hm).below hB)
 rw [h.len, h'.len, show (L.map fun x => MKp.k x) = P.kp from h.says, show (L'.map fun x => MKp.k x) = Q.kp from h'.says] at hC
 have ED : Shut (decide (P.kp = Q.kp) = true ↔ P.kp = Q.kp) := ⟨by simp⟩
 generalize decide (P.kp = Q.kp) = dd at hC ED
 have q0 : W.cell? ⟨w.heap.size, 0, none⟩ = some (.int .i64 P.me) := cellB hk 0 _ rfl
 have q1 : W.cell? ⟨w.heap.size, 1, none⟩ = some (.slice p n c) := cellB hk 1 _ rfl
 have q2 : W.cell? ⟨w.heap.size, 2, none⟩ = some (.int .i64 P.tm) := cellB hk 2 _ rfl
 have q3 : W.cell? ⟨w.heap.size, 3, none⟩ = some (.int .i64 P.sq) := cellB hk 3 _ rfl
 have s0 : W.cell? ⟨w.heap.size + 1, 0, none⟩ = some (.int .i64 Q.me) := cellB hk' 0 _ rfl
 have s1 : W.cell? ⟨w.heap.size + 1, 1, none⟩ = some (.slice p' n' c') := cellB hk' 1 _ rfl
 have s2 : W.cell? ⟨w.heap.size + 1, 2, none⟩ = some (.int .i64 Q.tm) := cellB hk' 2 _ rfl
 have s3 : W.cell? ⟨w.heap.size + 1, 3, none⟩ = some (.int .i64 Q.sq) := cellB hk' 3 _ rfl
 clear h h' hk hk'
 have no : ¬ (P.me = Q.me ∧ P.tm = Q.tm ∧ P.sq = Q.sq ∧ P.kp = Q.kp) → Shut (¬ P = Q) := fun g => ⟨fun e => absurd (plEq.1 e) g⟩
 go_enter Tryz.func16, Tryz.ntmps16
 go_upto_region 1 with fail
 rw [HW.out]
 clear HW
 rcases keq_cases P.me Q.me with ⟨bq0, e0⟩ | ⟨bq0, e0⟩
 ·have E0 := Shut.mk e0
  clear e0
  rcases keq_cases P.tm Q.tm with ⟨bq1, e1⟩ | ⟨bq1, e1⟩
  ·have E1 := Shut.mk e1
   clear e1
   rcases keq_cases P.sq Q.sq with ⟨bq2, e2⟩ | ⟨bq2, e2⟩
   ·have E2 := Shut.mk e2
    clear e2
    go_wp2_with fail
    refine hC.mono ?_
    rintro e W1 ⟨rfl, hb⟩
    have hB1 := hB.trans (hb.mono hB.size)
    have HE := Shut.mk (And.intro E0.out (And.intro E1.out E2.out))
    clear hC hb no
    cases dd with
    | true =>
     have R := Shut.mk (plEq.2 ⟨HE.out.1, HE.out.2.1, HE.out.2.2, ED.out.1 (by trivial)⟩)
     go_wp2
     go_ret
     exact ⟨true, rfl, ⟨⟨fun _ => R.out, fun _ => rfl⟩, hB1⟩⟩
    | false =>
     have R : Shut (¬ P = Q) := ⟨fun e => absurd (ED.out.2 (plEq.1 e).2.2.2) (by simp)⟩
     go_wp2
     go_ret
     exact ⟨false, rfl, ⟨⟨fun e => (by cases e), fun e => absurd e R.out⟩, hB1⟩⟩
   ·have E2 := Shut.mk e2
    clear e2
    have R := no (fun e => E2.out e.2.2.1)
    go_wp2
    go_ret
    exact ⟨false, rfl, ⟨⟨fun e => (by cases e), fun e => absurd e R.out⟩, hB⟩⟩
  ·have E1 := Shut.mk e1
   clear e1
   have R := no (fun e => E1.out e.2.1)
   go_wp2
   go_ret
   exact ⟨false, rfl, ⟨⟨fun e => (by cases e), fun e => absurd e R.out⟩, hB⟩⟩
 ·have E0 := Shut.mk e0
  clear e0
  have R := no (fun e => E0.out e.1)
  go_wp2
  go_ret
  exact ⟨false, rfl, ⟨⟨fun e => (by cases e), fun e => absurd e R.out⟩, hB⟩⟩

theorem foldlPush (l : List UInt8) (s : ByteArray) : ((l.map fun x => (x.toNat : Int)).foldl (fun r n => r.push (UInt8.ofNat n.toNat)) s).data.toList = s.data.toList ++ l := by
 induction l generalizing s with
 | nil => simp
 | cons x r ih =>
  simp only [List.map_cons, List.foldl_cons]
  rw [ih]
  simp [ByteArray.push]

theorem convBytes {w : World} {a : Option Addr} {n c : Nat} {l : List UInt8} (h : Lies w a (bs l)) (hl : l.length = n) :
  (convert 35 9 (.slice a n c)).run Tryz.prog w = .ok (.string ⟨l.toArray⟩) w := by
 rw [run_convert_bytes_string w 35 9 5 a n c Tryz.underlying35 Tryz.underlying5 Tryz.underlying9]
 cases a with
 | none =>
  have : l = [] := by
   cases l with
   | nil => rfl
   | cons x r => obtain ⟨_, _, e, _⟩ := h 0 _ (by simp [bs]; rfl); simp at e
  subst this
  simp [Conv.bytesToString, Sem.run_pure]
  rfl
 | some ad =>
  have hlc : (loadCells ad n).run Tryz.prog w = .ok ((l.map fun x => (x.toNat : Int)).map (Value.int .u8)).toArray w := by
   have hh := run_loadCells_list (P := Tryz.prog) w ad ((l.map fun x => (x.toNat : Int)).map (Value.int .u8)) (fun j v hj => by
    obtain ⟨b, off, e, hc⟩ := h j v (by simpa [bs] using hj)
    simp at e
    subst e
    simpa [Addr.add_lit] using hc)
   simpa [hl] using hh
  rw [run_bytesToString w ad n c _ hlc]
  congr 2
  have := foldlPush l ByteArray.empty
  simp at this
  cases hh : ((l.map fun x => (x.toNat : Int)).foldl (fun r n => r.push (UInt8.ofNat n.toNat)) ByteArray.empty) with
  | mk d =>
   rw [hh] at this
   simp at this
   subst this
   simp

theorem lies_nats {w : World} {a : Addr} {l : List UInt8} (h : Lies w (some a) (bs l)) : ∀ i, i < l.length → w.cell? (a.add i) = some (.int .u8 ((l.map fun x => (x.toNat : Int)).getD i 0)) := by
 intro i hi
 obtain ⟨b, off, e, hc⟩ := h i _ (bs_get l i hi)
 cases e
 rw [Addr.add_lit]
 simpa [hi] using hc

theorem lies_noneD {w : World} {l : List UInt8} (h : Lies w none (bs l)) : l = [] := by
 cases l with
 | nil => rfl
 | cons c r =>
  obtain ⟨b, off, e, _⟩ := h 0 _ (bs_get (c :: r) 0 (by simp))
  cases e

theorem cloneDk_any (p : Option Addr) (cp : Nat) (l : List UInt8) (w : World) (hn : l.length ≤ 140737488355328) (h : Lies w p (bs l)) :
  Calls Tryz.prog 40 #[.slice p l.length cp] w fun e w' => (∃ (p' : Option Addr) (cp' : Nat), e = .returned (.slice p' l.length cp') ∧ l.length ≤ cp' ∧ Lies w' p' (bs l) ∧ ∀ b o, p' = some ⟨b, o, none⟩ → w.heap.size ≤ b) ∧ Below w.heap.size w w' := by
 cases p with
 | none =>
  obtain rfl := lies_noneD h
  refine (Tryz.bytes_Clone_nil 0 cp w).mono ?_
  rintro e w' ⟨rfl, rfl⟩
  exact ⟨⟨none, 0, rfl, Nat.le_refl _, Lies.nil _ _, fun b o e => by cases e⟩, Below.refl _ _⟩
 | some a =>
  refine (Tryz.bytes_Clone_at a l.length cp _ w (by simp) hn (lies_nats h)).mono ?_
  rintro e w' ⟨v, rfl, hown, _, hb⟩
  have e1 : (l.map fun x => (x.toNat : Int)).map (Value.int .u8) = bs l := by simp [bs]
  rw [e1] at hown
  obtain ⟨p', cp', rfl, hl, _⟩ := own_lies hown
  have hcp : l.length ≤ cp' := by
   rcases hown.2 with ⟨e, h0⟩ | ⟨g, cap, cur, e, _, _, h1, _⟩
   ·rw [h0]; exact Nat.zero_le _
   ·cases e; exact h1
  exact ⟨⟨p', cp', rfl, hcp, hl, fun b o e => (hown.lt b (by rw [e]; rfl)).1⟩, hb⟩

theorem indexLF_any (a : Addr) (cp : Nat) (l : List UInt8) (w : World) (h : Lies w (some a) (bs l)) :
  Calls Tryz.prog 118 #[.slice (some a) l.length cp, .int .u8 10] w fun e w' => e = .returned (.int .i64 (Lib.indexByte l 10)) ∧ w = w' := by
 refine (Tryz.bytes_IndexByte_at a l.length cp _ 10 w (by simp) (lies_nats h)).mono ?_
 rintro e w' ⟨rfl, rfl⟩
 rw [bytesOf_nats]
 exact ⟨ret_int (by rw [show (10 : Int).toNat.toUInt8 = 10 from by decide]), rfl⟩

theorem indexLF_none : ∀ {l : List UInt8}, (10 : UInt8) ∉ l → Lib.indexByte l 10 = -1
 | [], _ => rfl
 | c :: l, h => by
  have h1 : ¬ (c == 10) = true := by simp; intro e; exact h (by simp [e])
  rw [Lib.indexByte, if_neg h1, indexLF_none (fun e => h (List.mem_cons_of_mem _ e))]
  rfl

theorem indexLF_hit : ∀ (a r : List UInt8), (10 : UInt8) ∉ a → Lib.indexByte (a ++ 10 :: r) 10 = a.length
 | [], r, _ => by simp [Lib.indexByte]
 | c :: a, r, h => by
  have h1 : ¬ (c == 10) = true := by simp; intro e; exact h (by simp [e])
  rw [List.cons_append, Lib.indexByte, if_neg h1, indexLF_hit a r (fun e => h (List.mem_cons_of_mem _ e))]
  simp

def dkV (sa : Option Addr) (sn sc : Nat) (wa : Option Addr) (wn wc : Nat) : Value := .agg #[.slice sa sn sc, .slice wa wn wc]

theorem hasRoom_any (sa : Option Addr) (sn sc : Nat) (wa : Option Addr) (wn wc : Nat) (m : Nat) (w : World) (h1 : sn ≤ 9223372036854775807) (h2 : wn ≤ 9223372036854775807) (h3 : m ≤ 60001) :
  Calls Tryz.prog 39 #[dkV sa sn sc wa wn wc, .int .i64 m] w fun e w' => e = .returned (.bool (decide (sn + wn + m ≤ 60000))) ∧ Below w.heap.size w w' := by
 simp only [dkV]
 have hB : Below w.heap.size w (w.alloc (.cells #[.slice sa sn sc, .slice wa wn wc] 43)) := (Below.refl _ _).alloc (Nat.le_refl _) _
 have hd : decide ((wn : Int) ≤ 60000 - (m : Int) - (sn : Int)) = decide (sn + wn + m ≤ 60000) := by
  rw [decide_eq_decide]; omega
 go_enter Tryz.func39, Tryz.ntmps39
 go_wp2
 go_ret
 exact ⟨rfl, hB⟩

theorem copyL (w : World) (g o dLen dCap : Nat) (p : Option Addr) (sc : Nat) (l : List UInt8) (cur : List Value) (hg : w.heap[g]? = some (.cells cur.toArray 5 (0, 0))) (hl : Lies w p (bs l)) (hd : l.length ≤ dLen) (hfit : o + l.length ≤ cur.length) :
  ∃ W', (Builtin.copy_ #[35, 35] 3 #[.slice (some ⟨g, o, none⟩) dLen dCap, .slice p l.length sc]).run Tryz.prog w = .ok (.int .i64 (l.length : Int)) W' ∧ W'.heap[g]? = some (.cells (cur.take o ++ bs l ++ cur.drop (o + l.length)).toArray 5 (0, 0)) ∧ ∀ B w0, B ≤ g → Below B w0 w → Below B w0 W' := by
 cases p with
 | none =>
  obtain rfl := lies_noneD hl
  refine ⟨w, ?_, by simpa [bs] using hg, fun _ _ _ h => h⟩
  have hs : ((Tryz.prog.info? 5).map (·.size)).isSome = true := by rw [sizeU8]; rfl
  cases hq : Tryz.prog.info? 5 with
  | none => simp [hq] at hs
  | some i => simp [Builtin.copy_, run_underlying Tryz.underlying35, Builtin.lenOf, Builtin.firstCells, sizeOf, typeInfo, hq, storeCells, goInt]
 | some a =>
  have h1 := run_copy_row Tryz.prog w 35 35 3 5 g o dLen dCap a l.length sc cur.toArray 5 (bs l) Tryz.underlying35 sizeU8 hg (by rw [bs_length]; exact (Nat.min_eq_left hd).symm)
   (fun j v hj => by
    obtain ⟨b, off, e, hc⟩ := hl j v hj
    cases e
    rw [Addr.add_lit]
    exact hc) (by simpa [bs_length] using hfit) (bs_one (l := l) rfl)
  rw [bs_length] at h1
  exact ⟨_, h1, setRow_heap w g _ _ _ _ hg, fun B w0 hB hb => below_setRow hb hB _⟩

set_option maxHeartbeats 1000000 in
set_option maxRecDepth 8000 in
theorem joinedD_any (p : Option Addr) (cp : Nat) (x : List UInt8) (q : Option Addr) (cq : Nat) (y : List UInt8) (w : World) (hx : x.length ≤ 60000) (hy : y.length ≤ 60000) (hp : Lies w p (bs x)) (hq : Lies w q (bs y)) :
  Calls Tryz.prog 41 #[.slice p x.length cp, .slice q y.length cq] w fun e w' => (∃ (p' : Option Addr) (c' : Nat), e = .returned (.slice p' (x.length + y.length) c') ∧ x.length + y.length ≤ c' ∧ Lies w' p' (bs (x ++ y)) ∧ ∀ b o, p' = some ⟨b, o, none⟩ → w.heap.size ≤ b) ∧ Below w.heap.size w w' := by
 obtain ⟨n, hn⟩ : ∃ n, x.length + y.length = n := ⟨_, rfl⟩
 have hmk := run_make_row' (P := Tryz.prog) 35 5 (.int .u8 0) 1 Tryz.underlying35 infoU8 rfl .i64 .i64 n (by omega) (by omega)
 have hni : (x.length : Int) + (y.length : Int) = (n : Int) := by omega
 obtain ⟨xn, hxn⟩ : ∃ xn, x.length = xn := ⟨_, rfl⟩
 obtain ⟨yn, hyn⟩ : ∃ yn, y.length = yn := ⟨_, rfl⟩
 rw [hxn, hyn] at hni hn ⊢
 rw [hn]
 go_enter Tryz.func41, Tryz.ntmps41
 have hm0 : (madeCells #[Value.int .u8 0] n) = (List.replicate n (Value.int .u8 0)).toArray := by
  apply Array.ext'
  rw [toList_madeCells_one]
 rw [hm0] at hmk
 go_upto_region 2 with fail
 generalize hW1 : w.alloc (.cells (Array.replicate n (Value.int .u8 0)) 5) = W1
 have hb1 : Below w.heap.size w W1 := by rw [← hW1]; exact (Below.refl _ _).alloc (Nat.le_refl _) _
 have hg1 : W1.heap[w.heap.size]? = some (.cells (List.replicate n (Value.int .u8 0)).toArray 5 (0, 0)) := by rw [← hW1, heap_alloc_eq, if_pos rfl]; simp
 obtain ⟨W2, hc2, hg2, hk2⟩ := copyL W1 w.heap.size 0 n n p cp x _ hg1 (hp.below hb1 (Nat.le_refl _)) (by omega) (by simp; omega)
 rw [hxn] at hc2
 have hb2 := hk2 _ _ (Nat.le_refl _) hb1
 have hcur : List.take 0 (List.replicate n (Value.int .u8 0)) ++ bs x ++ List.drop (0 + x.length) (List.replicate n (Value.int .u8 0)) = bs x ++ List.replicate yn (Value.int .u8 0) := by
  simp
  omega
 rw [hcur] at hg2
 have hq2 := hq.below hb2 (Nat.le_refl _)
 clear hW1 hmk hcur hm0 hg1 hk2
 go_upto_region 3 with fail
 clear hc2
 by_cases hy0 : yn = 0
 ·subst hy0
  obtain rfl : y = [] := List.length_eq_zero_iff.1 hyn
  obtain rfl : xn = n := by omega
  obtain ⟨W3, hc3, hg3, hk3⟩ := copyL W2 w.heap.size 0 0 0 q cq [] _ hg2 hq2 (by simp) (by simp)
  have hb3 := hk3 _ _ (Nat.le_refl _) hb2
  simp only [List.length_nil] at hc3
  have hL3 : Lies W3 (some ⟨w.heap.size, 0, none⟩) (bs (x ++ [])) := by
   have := Lies.of_block hg3
   simpa [bs] using this
  go_wp2
  go_ret
  exact ⟨⟨_, _, rfl, by omega, hL3, fun b o e => by cases e; exact Nat.le_refl _⟩, hb3⟩
 ·have hne : ¬ n = xn := by omega
  obtain ⟨W3, hc3, hg3, hk3⟩ := copyL W2 w.heap.size xn yn yn q cq y _ hg2 hq2 (by omega) (by simp [bs_length]; omega)
  rw [hyn] at hc3
  have hb3 := hk3 _ _ (Nat.le_refl _) hb2
  have e1 : n - xn = yn := by omega
  have hL3 : Lies W3 (some ⟨w.heap.size, 0, none⟩) (bs (x ++ y)) := by
   have h3 := Lies.of_block hg3
   have e2 : List.take xn (bs x ++ List.replicate yn (Value.int .u8 0)) ++ bs y ++ List.drop (xn + y.length) (bs x ++ List.replicate yn (Value.int .u8 0)) = bs (x ++ y) := by
    rw [List.take_left' (by rw [bs_length, hxn]), List.drop_eq_nil_of_le (by simp [bs_length]; omega)]
    simp [bs]
   rw [e2] at h3
   simpa using h3
  go_wp2
  go_ret
  exact ⟨⟨_, _, rfl, by omega, hL3, fun b o e => by cases e; exact Nat.le_refl _⟩, hb3⟩

def bldRen : Go.Shelf.Ren := ⟨fun | 167 => 114 | 240 => 139 | 276 => 169 | 169 => 115 | n => n, fun | 0 => 0 | 4 => 4 | 5 => 5 | 9 => 9 | 20 => 20 | 37 => 35 | 70 => 178 | 72 => 180 | 75 => 182 | 164 => 247 | 80 => 185 | n => n, fun | n => n⟩

theorem bld167 : Go.Proofs.Lays.n167 Tryz.prog bldRen := {
 mixed := by kernel_rfl
 f167 := Tryz.func114.trans (congrArg some (by kernel_rfl))
 f240 := Tryz.func139.trans (congrArg some (by kernel_rfl))
 f276 := Tryz.func169.trans (congrArg some (by kernel_rfl))
 t0 := Tryz.underlying0
 a0 := Tryz.isAgg0
 z0 := Tryz.sizeOf0
 v0 := Tryz.zeroValue0
 t4 := Tryz.underlying4
 a4 := Tryz.isAgg4
 z4 := Tryz.sizeOf4
 v4 := Tryz.zeroValue4
 t5 := Tryz.underlying5
 a5 := Tryz.isAgg5
 z5 := Tryz.sizeOf5
 v5 := Tryz.zeroValue5
 t9 := Tryz.underlying9
 a9 := Tryz.isAgg9
 z9 := Tryz.sizeOf9
 v9 := Tryz.zeroValue9
 t20 := Tryz.underlying20
 a20 := Tryz.isAgg20
 z20 := Tryz.sizeOf20
 v20 := Tryz.zeroValue20
 t37 := Tryz.underlying35
 a37 := Tryz.isAgg35
 z37 := Tryz.sizeOf35
 v37 := Tryz.zeroValue35
 t70 := Tryz.underlying178
 a70 := Tryz.isAgg178
 z70 := Tryz.sizeOf178
 v70 := Tryz.zeroValue178
 t72 := Tryz.underlying180
 a72 := Tryz.isAgg180
 z72 := Tryz.sizeOf180
 v72 := Tryz.zeroValue180
 t75 := Tryz.underlying182
 a75 := Tryz.isAgg182
 z75 := Tryz.sizeOf182
 v75 := Tryz.zeroValue182
 t164 := Tryz.underlying247
 a164 := Tryz.isAgg247
 z164 := Tryz.sizeOf247
 v164 := Tryz.zeroValue247 }

theorem bldExtra : Builder.Extra Tryz.prog bldRen := {
 sizeBuilder := by kernel_rfl
 liesBuilder := by kernel_rfl
 t5 := Tryz.underlying5
 a5 := Tryz.isAgg5
 z5 := Tryz.sizeOf5
 v5 := Tryz.zeroValue5
 infoByte := by kernel_rfl
 cellsByte := by kernel_rfl
 sizeByte := by kernel_rfl
 neB5 := by decide }

theorem writeByte_any (B b : Nat) (bs : List Value) (c : Int) (w : World) (h : Lib.IsBuilderF 180 5 B b bs w) (hlen : bs.length + 1 ≤ 140737488355328) (hBw : B ≤ w.heap.size) :
  Calls Tryz.prog 114 #[.pointer (some ⟨b, 0, none⟩), .int .u8 c] w fun e w' => e = .returned .nilIface ∧ (Lib.BuilderAtF 180 5 B b (.pointer (some ⟨b, 0, none⟩)) (bs ++ [.int .u8 c]) w' ∧ Below B w w' ∧ Lib.OthersKept 5 (some b) w w') :=
 Any.Builder_WriteByte_k bld167 bldExtra B b bs c w h hlen hBw

end Go.Proofs.YtakkajjoeimkdaaGreatDoor
