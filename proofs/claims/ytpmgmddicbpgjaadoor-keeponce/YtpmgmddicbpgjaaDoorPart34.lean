import Derived.Test.YtpmgmddicbpgjaaDoorPart32
import Derived.Test.YtpmgmddicbpgjaaDoorPart33
import Derived.Test.YtpmgmddicbpgjaaDoorPart2
import Derived.Test.YtpmgmddicbpgjaaDoorPart23
import Derived.BigRegion
import Derived.Test.YtpmgmddicbpgjaaDoorPart25
import Derived.Carry
import Derived.Test.YtpmgmddicbpgjaaDoorPart1
import Derived.ProofKit
import Derived.OpenShut
import Derived.ShutString
import Derived.ChangeOld
import Derived.Below
import Derived.SizedLaws
import Derived.Deep.Slices
/-
  Chapter 9: what KeepOnce's rounds carry along.
-/
namespace Go.Proofs.YtpmgmddicbpgjaaDoor
open Go.ChangeShapes Go.ChangeMaps Go.WideShapes Go.WideMaps Go.WideElems Go.RowKit Go.Maps
set_option linter.unusedVariables false
set_option linter.unusedSimpArgs false

theorem turned_other {w w' : World} {b : Nat} (h : w.mapTurned w' b) {k : Nat} (hk : k ≠ b) : w'.heap[k]? = w.heap[k]? := by
  obtain ⟨es, cl, es', cl', h1, rfl⟩ := h
  have hb : b < w.heap.size := (Array.getElem?_eq_some_iff.1 h1).1
  exact heap_setBlock_other h1 _ hk

theorem HdMap.belowW {w w' : World} {b n : Nat} {f : Hd → Bool} (h : HdMap w b n f) (hb : Below w.heap.size w w') : HdMap w' b n f :=
  h.kept (row := none) ⟨hb.os, hb.tape, hb.output, hb.size, fun k hk _ => hb.block k hk⟩ (by simp)

/-- a place's box -/
def PlBoxed (w : World) (b : Nat) (P : Pl) (p : Option Addr) (cp : Nat) : Prop :=
  w.heap[b]? = some (.cells #[.int .i64 P.me, .slice p P.kp.length cp, .int .i64 P.tm, .int .i64 P.sq] 25 (0, 0))

/-- .. at the beginning of a round -/
structure OncI (w wr : World) (pb mb : Nat) (me : Int) (q : Nat) (P : Pl) (D : List Hd) (L : List MKp) (p : Option Addr) (cp nm : Nat) : Prop where
  ok : PlOk P
  hme : P.me = me
  told : Told P D
  few : nm ≤ q
  below : Below w.heap.size w wr
  box : PlBoxed wr pb P p cp
  pl : PlNew (mb + 1) wr P.kp L p cp
  map : HdMap wr mb nm (fun h => decide (h ∈ D))
  low : w.heap.size ≤ pb
  lt : pb < mb

theorem OncI.stay {w wr W9 : World} {pb mb q : Nat} {me : Int} {P : Pl} {D : List Hd} {L : List MKp} {p : Option Addr} {cp nm : Nat} (h : OncI w wr pb mb me q P D L p cp nm) (hb : Below wr.heap.size wr W9) : OncI w W9 pb mb me (q + 1) P D L p cp nm :=
  ⟨h.ok, h.hme, h.told, Nat.le_succ_of_le h.few, h.below.trans (hb.mono h.below.size), blkB h.box hb, h.pl.below hb, h.map.belowW hb, h.low, h.lt⟩

/-- .. behind a record that was taken -/
structure OncM (w u : World) (pb mb qb : Nat) (P Q : Pl) (D : List Hd) (p0 : Option Addr) (c0 : Nat) (L : List MKp) (p : Option Addr) (cp nm : Nat) : Prop where
  below : Below w.heap.size w u
  pbox : PlBoxed u pb P p0 c0
  qbox : PlBoxed u qb Q p cp
  pl : PlNew (mb + 1) u Q.kp L p cp
  map : HdMap u mb nm (fun h => decide (h ∈ D))
  low : w.heap.size ≤ pb
  lt : pb < mb
  lq : mb < qb

theorem OncM.belowM {w u v : World} {pb mb qb : Nat} {P Q : Pl} {D : List Hd} {p0 : Option Addr} {c0 : Nat} {L : List MKp} {p : Option Addr} {cp nm : Nat} (h : OncM w u pb mb qb P Q D p0 c0 L p cp nm) (hb : Below u.heap.size u v) : OncM w v pb mb qb P Q D p0 c0 L p cp nm :=
  ⟨h.below.trans (hb.mono h.below.size), blkB h.pbox hb, blkB h.qbox hb, h.pl.below hb, h.map.belowW hb, h.low, h.lt, h.lq⟩

theorem OncM.of {w wr W2 W4 W5 w6 : World} {pb mb qb q : Nat} {me : Int} {P Q : Pl} {r : Rc} {D : List Hd} {L0 L : List MKp} {p0 p : Option Addr} {c0 cp nm : Nat} (h : OncI w wr pb mb me q P D L0 p0 c0 nm) (hmb : mb < wr.heap.size) (h2 : Below wr.heap.size wr W2) (h4 : Below W2.heap.size W2 W4) (hN : PlNew W2.heap.size W4 Q.kp L p cp) (h5 : Below W4.heap.size W4 W5) (hq : PlBoxed W5 qb Q p cp) (hqb : mb < qb) (ht : W5.drew.mapTurned w6 mb) (hm : HdMap w6 mb (nm + 1) (fun z => if z = r.h then (decide (r.h ∈ D) || r.k == 3) else decide (z ∈ D))) : OncM w w6 pb mb qb P Q (toldBy r D) p0 c0 L p cp (nm + 1) := by
  have hs2 := h2.size
  have hs4 := h4.size
  have hs5 := h5.size
  have hsw := h.below.size
  have hpm := h.lt
  have hb4 : Below wr.heap.size wr W4 := h2.trans (h4.mono hs2)
  have hb5 : Below wr.heap.size wr W5 := hb4.trans (h5.mono hb4.size)
  have hlow := h.low
  have hk : ∀ k, k ≠ mb → w6.heap[k]? = W5.heap[k]? := fun k hk => turned_other ht hk
  refine ⟨((h.below.trans (hb5.mono hsw)).drew).grown ht.grown (by show w.heap.size ≤ W5.heap.size; omega) (fun k e => by cases e; omega), ?_, ?_, ?_, ?_, h.low, h.lt, hqb⟩
  · exact (hk _ (by omega)).trans (blkB h.box hb5)
  · exact (hk _ (by omega)).trans hq
  · refine ((hN.below h5).off (b := mb) (fun g o e' => ?_) (fun m hm => ?_) hk).low (by omega)
    · have := (hN.own.lt g (by rw [e']; rfl)).1; omega
    · have h3 := (hN.new m hm).1
      exact ⟨farM_new h3 (by omega), fun e' => by have := (h3.grow_lt e').1; omega⟩
  · rw [told_map] at hm
    exact hm

theorem OncM.next {w u W9 : World} {pb mb qb q : Nat} {me : Int} {P Q : Pl} {D : List Hd} {p0 : Option Addr} {c0 : Nat} {L : List MKp} {p : Option Addr} {cp nm : Nat} (h : OncM w u pb mb qb P Q D p0 c0 L p cp nm) (hok : PlOk Q) (hme : Q.me = me) (htold : Told Q D) (hnm : nm ≤ q + 1) (h9 : PlBoxed W9 pb Q p cp) (hk9 : ∀ k, k ≠ pb → W9.heap[k]? = u.heap[k]?) (hB9 : ∀ B v, B ≤ pb → Below B v u → Below B v W9) : OncI w W9 pb mb me (q + 1) Q D L p cp nm := by
  have hpm := h.lt
  have hlow := h.low
  have hb9 : Below pb u W9 := hB9 pb u (Nat.le_refl _) (Below.refl _ _)
  refine ⟨hok, hme, htold, hnm, hB9 _ _ h.low h.below, h9, ?_, h.map.kept (row := some pb) ⟨hb9.os, hb9.tape, hb9.output, hb9.size, fun k hk e => hk9 k (fun e' => e (by rw [e']))⟩ (by simp; omega), h.low, h.lt⟩
  refine h.pl.off (b := pb) (fun g o e' => ?_) (fun m hm => ?_) hk9
  · have := (h.pl.own.lt g (by rw [e']; rfl)).1; omega
  · have h3 := (h.pl.new m hm).1
    exact ⟨farM_new h3 (by omega), fun e' => by have := (h3.grow_lt e').1; omega⟩

end Go.Proofs.YtpmgmddicbpgjaaDoor

/-
  Chapter 9: KeepOnce's map written, by itself: over a frame of variables.
-/
namespace Go.Proofs.YtpmgmddicbpgjaaDoor
open Go.ChangeShapes Go.WideShapes Go.WideMaps Go.WideElems Go.RowKit Go.Maps
set_option linter.unusedVariables false
set_option linter.unusedSimpArgs false
attribute [local go_sem ↓] Go.wp_at_zero Go.wp_at_succ

theorem HdMap.drew {w : World} {b n : Nat} {f : Hd → Bool} (h : HdMap w b n f) : HdMap w.drew b n f := h.kept (row := none) ⟨rfl, rfl, rfl, Nat.le_refl _, fun _ _ _ => rfl⟩ (by simp)

set_option maxHeartbeats 4000000 in
set_option maxRecDepth 16000 in
theorem onceRegion (r : Rc) (da ca : Option Addr) (dc cc : Nat) (b g n : Nat) (f : Hd → Bool) (u0 u1 u2 u3 u4 u5 u6 u8 u10 u11 u12 u13 u14 u15 u16 u17 u18 u19 u20 u21 u22 u23 u24 u25 u26 u27 u28 u29 u30 u31 u32 u33 u34 u35 u36 u37 u38 u39 u40 u41 u42 u43 u44 u45 u46 u47 u48 u49 u50 u51 u52 u53 u54 u55 u56 u57 u58 u59 u60 u61 u62 u63 u64 u65 u66 u67 u68 u69 u70 u71 u72 u73 u74 u75 u76 u77 u78 u79 u80 u81 u82 u83 u84 u85 u86 u87 u88 u89 u90 u91 u92 u93 u94 u95 u96 u97 u98 u99 u100 u101 u102 u103 u104 u105 u106 u107 u108 u109 u110 u111 u112 u113 u114 u115 u116 u117 u118 u119 u120 u121 u122 u123 u124 u125 u126 u127 : Value) (W : World) (Q : Exit → Act → World → Prop) (hr : Shut (W.heap[g]? = some (.cells #[.int .i64 r.k, .int .i64 r.p, .int .i64 r.n, .int .i64 r.y, .int .i64 r.h.F, .int .i64 r.h.Q, .int .i64 r.h.T, .int .i64 r.h.L, .int .i64 r.h.B, .int .i64 r.h.K, .int .i64 r.id, .slice da r.d.length dc, .slice ca r.c.length cc] 40 (0, 0)))) (hM : Shut (HdMap W b n f)) (hn : n < maxLen) (hi : r.h.ok)
    (hQ : ∀ (w' : World) (v69 v70 v71 v72 v73 v74 v75 v76 v77 v78 v79 v80 : Value), HdMap w' b (n + 1) (fun z => if z = r.h then (f r.h || r.k == 3) else f z) → W.drew.mapTurned w' b → Q .normal ⟨#[u0, u1, u2, u3, u4, u5, u6, .map (some b), u8, .pointer (some ⟨g, 0, none⟩), u10, u11, u12, u13, u14, u15, u16, u17, u18, u19, u20, u21, u22, u23, u24, u25, u26, u27, u28, u29, u30, u31, u32, u33, u34, u35, u36, u37, u38, u39, u40, u41, u42, u43, u44, u45, u46, u47, u48, u49, u50, u51, u52, u53, u54, u55, u56, u57, u58, u59, u60, u61, u62, u63, u64, u65, u66, u67, u68, v69, v70, v71, v72, v73, v74, v75, v76, v77, v78, v79, v80, u81, u82, u83, u84, u85, u86, u87, u88, u89, u90, u91, u92, u93, u94, u95, u96, u97, u98, u99, u100, u101, u102, u103, u104, u105, u106, u107, u108, u109, u110, u111, u112, u113, u114, u115, u116, u117, u118, u119, u120, u121, u122, u123, u124, u125, u126, u127], []⟩ w') :
    Code.wp Tryd.prog (Code.region 12 #[{ dst := some 69, op := Op.move (Operand.tmp 7), type := 30, pos := "law7.go:181", after := #[], guard := none }, { dst := some 70, op := Op.fieldAddr 40 (Operand.tmp 9) 4, type := 0, pos := "law7.go:181", after := #[], guard := none }, { dst := some 71, op := Op.load 34 (Operand.tmp 70), type := 34, pos := "law7.go:181", after := #[{ on := 1, ground := Ground.data }], guard := none }, { dst := some 72, op := Op.move (Operand.tmp 7), type := 30, pos := "law7.go:181", after := #[], guard := none }, { dst := some 73, op := Op.fieldAddr 40 (Operand.tmp 9) 4, type := 0, pos := "law7.go:181", after := #[], guard := none }, { dst := some 74, op := Op.load 34 (Operand.tmp 73), type := 34, pos := "law7.go:181", after := #[{ on := 4, ground := Ground.data }], guard := none }, { dst := some 75, op := Op.lookup 30 (Operand.tmp 72) (Operand.tmp 74) false, type := 4, pos := "law7.go:181", after := #[{ on := 3, ground := Ground.data }, { on := 5, ground := Ground.data }], guard := none }, { dst := some 76, op := Op.move (Operand.tmp 75), type := 4, pos := "law7.go:181", after := #[{ on := 6, ground := Ground.data }], guard := none }, { dst := some 77, op := Op.fieldAddr 40 (Operand.tmp 9) 0, type := 0, pos := "law7.go:181", after := #[{ on := 7, ground := Ground.guard }], guard := some (7, false) }, { dst := some 78, op := Op.load 3 (Operand.tmp 77), type := 3, pos := "law7.go:181", after := #[{ on := 8, ground := Ground.data }, { on := 7, ground := Ground.guard }], guard := some (7, false) }, { dst := some 79, op := Op.binOp BinOp.eql 3 (Operand.tmp 78) (Operand.const (Value.int IntKind.i64 3)) 3, type := 4, pos := "law7.go:181", after := #[{ on := 9, ground := Ground.data }, { on := 7, ground := Ground.guard }], guard := some (7, false) }, { dst := some 80, op := Op.pick (Operand.tmp 76) (Operand.const (Value.bool true)) (Operand.tmp 79), type := 4, pos := "law7.go:181", after := #[{ on := 7, ground := Ground.data }, { on := 10, ground := Ground.data }], guard := none }, { dst := none, op := Op.mapUpdate 30 (Operand.tmp 69) (Operand.tmp 71) (Operand.tmp 80), type := 0, pos := "law7.go:181", after := #[{ on := 0, ground := Ground.data }, { on := 2, ground := Ground.data }, { on := 11, ground := Ground.data }, { on := 7, ground := Ground.chain }, { on := 0, ground := Ground.phase }, { on := 1, ground := Ground.phase }, { on := 2, ground := Ground.phase }, { on := 3, ground := Ground.phase }, { on := 4, ground := Ground.phase }, { on := 5, ground := Ground.phase }, { on := 6, ground := Ground.phase }, { on := 7, ground := Ground.phase }, { on := 8, ground := Ground.phase }, { on := 9, ground := Ground.phase }, { on := 10, ground := Ground.phase }, { on := 11, ground := Ground.phase }], guard := none }] true) Q ⟨#[u0, u1, u2, u3, u4, u5, u6, .map (some b), u8, .pointer (some ⟨g, 0, none⟩), u10, u11, u12, u13, u14, u15, u16, u17, u18, u19, u20, u21, u22, u23, u24, u25, u26, u27, u28, u29, u30, u31, u32, u33, u34, u35, u36, u37, u38, u39, u40, u41, u42, u43, u44, u45, u46, u47, u48, u49, u50, u51, u52, u53, u54, u55, u56, u57, u58, u59, u60, u61, u62, u63, u64, u65, u66, u67, u68, u69, u70, u71, u72, u73, u74, u75, u76, u77, u78, u79, u80, u81, u82, u83, u84, u85, u86, u87, u88, u89, u90, u91, u92, u93, u94, u95, u96, u97, u98, u99, u100, u101, u102, u103, u104, u105, u106, u107, u108, u109, u110, u111, u112, u113, u114, u115, u116, u117, u118, u119, u120, u121, u122, u123, u124, u125, u126, u127], []⟩ W := by
  dsimp only at hQ ⊢
  have M := hM.out.drew
  obtain ⟨q0, q1, q2, q3, q4, q5, q6, q7, q8, q9, q10, q11, q12⟩ := rcBox hr.out
  have hl := M.look hi
  simp only [Hd.val] at hl
  obtain ⟨w', hp, hm, ht⟩ := M.put hn hi (f r.h || r.k == 3)
  simp only [Hd.val] at hp
  have HQ := Shut.mk hQ
  have HM := Shut.mk hm
  have HT := Shut.mk ht
  clear hQ hm ht M
  by_cases hf : f r.h = true
  · rw [hf] at hl hp
    simp only [Bool.true_or] at hp
    go_big_region
    all_goals exact HQ.out _ _ _ _ _ _ _ _ _ _ _ _ _ (by simpa [hf] using HM.out) HT.out
  · rw [Bool.not_eq_true] at hf
    rw [hf] at hl hp
    simp only [Bool.false_or] at hp
    have hd : (r.k == 3) = (r.k == 3) := rfl
    go_big_region
    all_goals exact HQ.out _ _ _ _ _ _ _ _ _ _ _ _ _ (by simpa [hf] using HM.out) HT.out

end Go.Proofs.YtpmgmddicbpgjaaDoor

/-
  Chapter 9: KeepOnce's map read beside a bundle, by itself: over a frame of variables.
-/
namespace Go.Proofs.YtpmgmddicbpgjaaDoor
open Go.ChangeShapes Go.WideShapes Go.WideMaps Go.WideElems Go.RowKit Go.Maps
set_option linter.unusedVariables false
set_option linter.unusedSimpArgs false
attribute [local go_sem ↓] Go.wp_at_zero Go.wp_at_succ

set_option maxHeartbeats 4000000 in
set_option maxRecDepth 16000 in
theorem onceRegion2 (me : Int) (y : MKp) (b g n : Nat) (f : Hd → Bool) (u1 u2 u3 u4 u5 u6 u8 u9 u10 u11 u12 u14 u15 u16 u17 u18 u19 u20 u21 u22 u23 u24 u25 u26 u27 u28 u29 u30 u31 u32 u33 u34 u35 u36 u37 u38 u39 u40 u41 u42 u43 u44 u45 u46 u47 u48 u49 u50 u51 u52 u53 u54 u55 u56 u57 u58 u59 u60 u61 u62 u63 u64 u65 u66 u67 u68 u69 u70 u71 u72 u73 u74 u75 u76 u77 u78 u79 u80 u81 u82 u83 u84 u85 u86 u87 u88 u89 u90 u91 u92 u93 u94 u95 u96 u97 u98 u99 u100 u101 u102 u103 u104 u105 u106 u107 u108 u109 u110 u111 u112 u113 u114 u115 u116 u117 u118 u119 u120 u121 u122 u123 u124 u125 u126 u127 : Value) (W : World) (Q : Exit → Act → World → Prop) (hr : Shut (W.heap[g]? = some (.cells #[.int .i64 y.k.h.F, .int .i64 y.k.h.Q, .int .i64 y.k.h.T, .int .i64 y.k.h.L, .int .i64 y.k.h.B, .int .i64 y.k.h.K, .bool y.k.own, .slice y.ca y.k.c.length y.cc, .slice y.ya y.ys.length y.yc, .int .i64 y.k.sh, .int .i64 y.k.gv, .int .i64 y.k.tw, .int .i64 y.k.tr, .slice y.ta y.k.tk.length y.tc, .bool y.k.dl, .bool y.k.pg] 46 (0, 0)))) (hM : Shut (HdMap W b n f)) (hi : y.k.h.ok) (hf : f y.k.h = y.k.dl)
    (hQ : Shut (∀ (v111 v112 v113 v114 v115 v116 v117 v118 v119 v120 v121 v122 v123 : Value), Q .normal ⟨#[.int .i64 me, u1, u2, u3, u4, u5, u6, .map (some b), u8, u9, u10, u11, u12, .pointer (some ⟨g, 0, none⟩), u14, u15, u16, u17, u18, u19, u20, u21, u22, u23, u24, u25, u26, u27, u28, u29, u30, u31, u32, u33, u34, u35, u36, u37, u38, u39, u40, u41, u42, u43, u44, u45, u46, u47, u48, u49, u50, u51, u52, u53, u54, u55, u56, u57, u58, u59, u60, u61, u62, u63, u64, u65, u66, u67, u68, u69, u70, u71, u72, u73, u74, u75, u76, u77, u78, u79, u80, u81, u82, u83, u84, u85, u86, u87, u88, u89, u90, u91, u92, u93, u94, u95, u96, u97, u98, u99, u100, u101, u102, u103, u104, u105, u106, u107, u108, u109, u110, v111, v112, v113, v114, v115, v116, v117, v118, v119, v120, v121, v122, v123, .bool false, u125, u126, u127], []⟩ W.drew)) :
    Code.wp Tryd.prog (Code.region 18 #[{ dst := some 111, op := Op.move (Operand.tmp 7), type := 30, pos := "law7.go:186", after := #[], guard := none }, { dst := some 112, op := Op.fieldAddr 46 (Operand.tmp 13) 0, type := 0, pos := "law7.go:186", after := #[], guard := none }, { dst := some 113, op := Op.load 34 (Operand.tmp 112), type := 34, pos := "law7.go:186", after := #[{ on := 1, ground := Ground.data }], guard := none }, { dst := some 114, op := Op.lookup 30 (Operand.tmp 111) (Operand.tmp 113) false, type := 4, pos := "law7.go:186", after := #[{ on := 0, ground := Ground.data }, { on := 2, ground := Ground.data }], guard := none }, { dst := some 115, op := Op.fieldAddr 46 (Operand.tmp 13) 9, type := 0, pos := "law7.go:186", after := #[], guard := none }, { dst := some 116, op := Op.load 4 (Operand.tmp 115), type := 4, pos := "law7.go:186", after := #[{ on := 4, ground := Ground.data }], guard := none }, { dst := some 117, op := Op.binOp BinOp.neq 4 (Operand.tmp 114) (Operand.tmp 116) 4, type := 4, pos := "law7.go:186", after := #[{ on := 3, ground := Ground.data }, { on := 5, ground := Ground.data }], guard := none }, { dst := some 118, op := Op.move (Operand.tmp 117), type := 4, pos := "law7.go:186", after := #[{ on := 6, ground := Ground.data }], guard := none }, { dst := some 119, op := Op.fieldAddr 46 (Operand.tmp 13) 0, type := 0, pos := "law7.go:186", after := #[{ on := 7, ground := Ground.guard }], guard := some (7, true) }, { dst := some 120, op := Op.fieldAddr 34 (Operand.tmp 119) 2, type := 0, pos := "law7.go:186", after := #[{ on := 8, ground := Ground.data }, { on := 7, ground := Ground.guard }], guard := some (7, true) }, { dst := some 121, op := Op.load 3 (Operand.tmp 120), type := 3, pos := "law7.go:186", after := #[{ on := 9, ground := Ground.data }, { on := 7, ground := Ground.guard }], guard := some (7, true) }, { dst := some 122, op := Op.move (Operand.tmp 0), type := 3, pos := "law7.go:186", after := #[{ on := 7, ground := Ground.guard }], guard := some (7, true) }, { dst := some 123, op := Op.binOp BinOp.eql 3 (Operand.tmp 121) (Operand.tmp 122) 3, type := 4, pos := "law7.go:186", after := #[{ on := 10, ground := Ground.data }, { on := 11, ground := Ground.data }, { on := 7, ground := Ground.guard }], guard := some (7, true) }, { dst := some 124, op := Op.pick (Operand.tmp 118) (Operand.tmp 123) (Operand.const (Value.bool false)), type := 4, pos := "law7.go:186", after := #[{ on := 7, ground := Ground.data }, { on := 12, ground := Ground.data }], guard := none }] true) Q ⟨#[.int .i64 me, u1, u2, u3, u4, u5, u6, .map (some b), u8, u9, u10, u11, u12, .pointer (some ⟨g, 0, none⟩), u14, u15, u16, u17, u18, u19, u20, u21, u22, u23, u24, u25, u26, u27, u28, u29, u30, u31, u32, u33, u34, u35, u36, u37, u38, u39, u40, u41, u42, u43, u44, u45, u46, u47, u48, u49, u50, u51, u52, u53, u54, u55, u56, u57, u58, u59, u60, u61, u62, u63, u64, u65, u66, u67, u68, u69, u70, u71, u72, u73, u74, u75, u76, u77, u78, u79, u80, u81, u82, u83, u84, u85, u86, u87, u88, u89, u90, u91, u92, u93, u94, u95, u96, u97, u98, u99, u100, u101, u102, u103, u104, u105, u106, u107, u108, u109, u110, u111, u112, u113, u114, u115, u116, u117, u118, u119, u120, u121, u122, u123, u124, u125, u126, u127], []⟩ W := by
  dsimp only at hQ ⊢
  have M := hM.out.drew
  obtain ⟨x0, x1, x2, x3, x4, x5, x6, x7, x8, x9, x10, x11, x12, x13, x14, x15⟩ := kpCellsOf hr.out
  have hl := M.look hi
  simp only [Hd.val] at hl
  rw [hf] at hl
  clear M
  by_cases hd : y.k.dl = true
  · rw [hd] at hl x14
    go_big_region
    all_goals exact hQ.out _ _ _ _ _ _ _ _ _ _ _ _ _
  · rw [Bool.not_eq_true] at hd
    rw [hd] at hl x14
    go_big_region
    all_goals exact hQ.out _ _ _ _ _ _ _ _ _ _ _ _ _

end Go.Proofs.YtpmgmddicbpgjaaDoor

/-
  Chapter 9: KeepOnce's walk.
-/
namespace Go.Proofs.YtpmgmddicbpgjaaDoor
open Go.RowKit
set_option linter.unusedVariables false
set_option linter.unusedSimpArgs false
attribute [local go_sem ↓] Go.wp_at_zero Go.wp_at_succ

set_option maxHeartbeats 16000000 in
set_option maxRecDepth 8000 in
theorem W_keepOnce (me : Int) (pa : Option Addr) (pc : Nat) (ml : List MRec) (w : World) (hl : Lies w pa (recCells ml)) (hall : ∀ m ∈ ml, RecIn w m ∧ RecShort m ∧ m.r.ints) (hm : ml.length ≤ maxLen) (hc : ml.length ≤ pc) (hL : Laid w) :
    Calls Tryd.prog 3 #[.int .i64 me, .slice pa ml.length pc] w fun e w' => e = .returned (.bool true) ∧ Below w.heap.size w w' := by
  obtain ⟨n, hn⟩ : ∃ n, ml.length = n := ⟨_, rfl⟩
  rw [hn] at hm hc ⊢
  unfold maxLen at hm
  obtain ⟨N, hN, hN100, hmin⟩ : ∃ N : Nat, N ≤ n ∧ N ≤ 100 ∧ min (n : Int) 100 = (N : Int) := ⟨min n 100, by omega, by omega, by omega⟩
  have hNw := placeNew_any me w
  have H := Shut.mk (And.intro hl (And.intro hall (And.intro hn hL)))
  generalize hcc : newCode me = z at hNw
  have HC := Shut.mk hcc
  clear hl hall hL hcc hn
  have hmm := @run_makeMap Tryd.prog
  go_enter Tryd.func3, Tryd.ntmps3
  go_wp2_with fail
  refine hNw.mono ?_
  rintro e W1 ⟨m', rfl, HN⟩
  clear hNw
  go_upto_region 2 with fail
  obtain ⟨V, hV⟩ : ∃ V, W1.alloc (.cells #[.int .i64 m', .slice none 0 0, .int .i64 0, .int .i64 0] 25) = V := ⟨_, rfl⟩
  rw [hV]
  have hb2 : Below W1.heap.size W1 V := by rw [← hV]; exact (Below.refl _ _).alloc (Nat.le_refl _) _
  have hpV : V.heap[W1.heap.size]? = some (.cells #[.int .i64 m', .slice none 0 0, .int .i64 0, .int .i64 0] 25 (0, 0)) := by rw [← hV, heap_alloc_eq, if_pos rfl]
  have hbV := HN.out.2.2.trans (hb2.mono HN.out.2.2.size)
  have hH := held_any V (H.out.2.2.2.below hbV)
  have HB := Shut.mk (And.intro hbV (And.intro hpV HN.out.2.2.size))
  clear hV hb2 hpV hbV
  generalize W1.heap.size = pb at *
  go_wp2_with fail
  refine hH.mono ?_
  rintro e V2 ⟨rfl, hb3⟩
  have hbV2 := HB.out.1.trans (hb3.mono HB.out.1.size)
  have hpV2 := blkB HB.out.2.1 hb3
  clear hH hb3
  rcases eqDec z 0 with ⟨y1, y2, y3, y4⟩ | ⟨y1, y2, y3, y4⟩
  case inr =>
    have hH2 := held_any V2 (H.out.2.2.2.below hbV2)
    have HB2 := Shut.mk hbV2
    clear y1 hpV2 hbV2
    go_wp2_with fail
    refine hH2.mono ?_
    rintro e V3 ⟨rfl, hb4⟩
    have R := HB2.out.trans (hb4.mono HB2.out.size)
    clear hH2 hb4
    go_wp2
    go_ret
    exact ⟨rfl, R⟩
  case inl =>
    have hn0 : newCode me = 0 := HC.out.trans y1
    subst y1
    have hme : m' = me := HN.out.1 rfl
    subst hme
    have HP := Shut.mk (And.intro hn0 (And.intro hbV2 hpV2))
    clear hn0 hbV2 hpV2 y2 y3 y4 HN
    go_upto_region 5 with fail
    obtain ⟨U, hU⟩ : ∃ U, V2.alloc (.map #[] 0) = U := ⟨_, rfl⟩
    rw [hU]
    have hbU : Below V2.heap.size V2 U := by rw [← hU]; exact (Below.refl _ _).alloc (Nat.le_refl _) _
    have hmU : HdMap U V2.heap.size 0 (fun _ => false) := by rw [← hU]; exact HdMap.made _
    have hpl := (Array.getElem?_eq_some_iff.1 HP.out.2.2).1
    have hlU : V2.heap.size < U.heap.size := by rw [← hU]; simp
    have HI0 : Shut (∃ P D L p cp nm, OncI w U pb V2.heap.size m' 0 P D L p cp nm) := ⟨⟨plNew m', [], [], none, 0, 0, new_ok HP.out.1, rfl, told_new m', Nat.le_refl _, HP.out.2.1.trans (hbU.mono HP.out.2.1.size), blkB HP.out.2.2 hbU, PlNew.none _ _, by simpa using hmU, HB.out.2.2, hpl⟩⟩
    have HS := Shut.mk hlU
    clear hU hbU hmU hpl hlU HP HB hmm
    generalize V2.heap.size = mb at *
    have HS' : Shut (mb < U.heap.size ∧ ∃ P D L p cp nm, OncI w U pb mb m' 0 P D L p cp nm) := ⟨⟨HS.out, HI0.out⟩⟩
    clear HS HI0
    go_upto_region 6 with fail
    go_loopw [33] (fun i wr => ∃ q : Nat, q ≤ N ∧ i = .int .i64 q ∧ Shut (mb < wr.heap.size ∧ ∃ P D L p cp nm, OncI w wr pb mb m' q P D L p cp nm)) (fun i _ => N - (intOf i).toNat)
    case atStart => exact ⟨0, Nat.zero_le _, rfl, HS'⟩
    case round =>
      clear HS'
      obtain ⟨q, hq, rfl, HI⟩ := hrel
      by_cases hlt : q < N
      · obtain ⟨x, hx⟩ : ∃ x, ml[q]? = some x := ⟨_, List.getElem?_eq_getElem (by rw [H.out.2.2.1]; omega)⟩
        have hxa := H.out.2.1 x (List.mem_of_getElem? hx)
        obtain ⟨hmb, P, D, L0, p0, c0, nm, hI⟩ := HI.out
        have hlr := H.out.1.below hI.below (Nat.le_refl _)
        obtain ⟨gb, go, rfl⟩ := hlr.some (k := 13 * q) (by rw [recCells_length, H.out.2.2.1]; omega)
        have s0 : wr.cell? ⟨gb, go + q * 13, none⟩ = some (.int .i64 x.r.k) := recs_cell' hlr hx 0 rfl
        have s1 : wr.cell? ⟨gb, go + q * 13 + 1, none⟩ = some (.int .i64 x.r.p) := recs_cell' hlr hx 1 rfl
        have s2 : wr.cell? ⟨gb, go + q * 13 + 2, none⟩ = some (.int .i64 x.r.n) := recs_cell' hlr hx 2 rfl
        have s3 : wr.cell? ⟨gb, go + q * 13 + 3, none⟩ = some (.int .i64 x.r.y) := recs_cell' hlr hx 3 rfl
        have s4 : wr.cell? ⟨gb, go + q * 13 + 4, none⟩ = some (.int .i64 x.r.h.F) := recs_cell' hlr hx 4 rfl
        have s5 : wr.cell? ⟨gb, go + q * 13 + 5, none⟩ = some (.int .i64 x.r.h.Q) := recs_cell' hlr hx 5 rfl
        have s6 : wr.cell? ⟨gb, go + q * 13 + 6, none⟩ = some (.int .i64 x.r.h.T) := recs_cell' hlr hx 6 rfl
        have s7 : wr.cell? ⟨gb, go + q * 13 + 7, none⟩ = some (.int .i64 x.r.h.L) := recs_cell' hlr hx 7 rfl
        have s8 : wr.cell? ⟨gb, go + q * 13 + 8, none⟩ = some (.int .i64 x.r.h.B) := recs_cell' hlr hx 8 rfl
        have s9 : wr.cell? ⟨gb, go + q * 13 + 9, none⟩ = some (.int .i64 x.r.h.K) := recs_cell' hlr hx 9 rfl
        have s10 : wr.cell? ⟨gb, go + q * 13 + 10, none⟩ = some (.int .i64 x.r.id) := recs_cell' hlr hx 10 rfl
        have s11 : wr.cell? ⟨gb, go + q * 13 + 11, none⟩ = some (.slice x.da x.r.d.length x.dc) := recs_cell' hlr hx 11 rfl
        have s12 : wr.cell? ⟨gb, go + q * 13 + 12, none⟩ = some (.slice x.ca x.r.c.length x.cc) := recs_cell' hlr hx 12 rfl
        obtain ⟨k0, hk0⟩ : ∃ k0, P.kp.length = k0 := ⟨_, rfl⟩
        have hgood := hI.pl.good hI.ok
        have hbx := hI.box
        unfold PlBoxed at hbx
        rw [hk0] at hbx
        have HX := Shut.mk (And.intro hI (And.intro hmb (And.intro hk0 (And.intro hxa.2.2 hbx))))
        have hsb := hI.below
        clear HI hx hlr hI hk0
        go_upto_region 8 with fail
        obtain ⟨W2, hW2⟩ : ∃ W2, wr.alloc (.cells #[.int .i64 x.r.k, .int .i64 x.r.p, .int .i64 x.r.n, .int .i64 x.r.y, .int .i64 x.r.h.F, .int .i64 x.r.h.Q, .int .i64 x.r.h.T, .int .i64 x.r.h.L, .int .i64 x.r.h.B, .int .i64 x.r.h.K, .int .i64 x.r.id, .slice x.da x.r.d.length x.dc, .slice x.ca x.r.c.length x.cc] 40) = W2 := ⟨_, rfl⟩
        rw [hW2]
        have hb2 : Below wr.heap.size wr W2 := by rw [← hW2]; exact (Below.refl _ _).alloc (Nat.le_refl _) _
        have hx2 : W2.heap[wr.heap.size]? = some (.cells #[.int .i64 x.r.k, .int .i64 x.r.p, .int .i64 x.r.n, .int .i64 x.r.y, .int .i64 x.r.h.F, .int .i64 x.r.h.Q, .int .i64 x.r.h.T, .int .i64 x.r.h.L, .int .i64 x.r.h.B, .int .i64 x.r.h.K, .int .i64 x.r.id, .slice x.da x.r.d.length x.dc, .slice x.ca x.r.c.length x.cc] 40 (0, 0)) := by rw [← hW2, heap_alloc_eq, if_pos rfl]
        have hw2 := hsb.trans (hb2.mono hsb.size)
        have hN2 := placeNext_any P p0 c0 L0 x.r x.da x.dc x.ca x.cc W2 (hgood.1.below hb2 (Nat.le_refl _)) (fun m hm => (hgood.2.1 m hm).below hb2) hgood.2.2.2.1 (by rw [hgood.2.2.1]; exact hgood.2.2.2.2.1) hgood.2.2.2.2.2 hxa.2.2 hxa.2.1.1 (hxa.1.1.below hw2 (Nat.le_refl _)) (hxa.1.2.below hw2 (Nat.le_refl _)) (H.out.2.2.2.below hw2)
        rw [hgood.2.2.1, HX.out.2.2.1] at hN2
        simp only [rcV] at hN2
        obtain ⟨d0, d1, d2, d3⟩ := plBox (blkB hbx hb2)
        obtain ⟨t0, t1, t2, t3, t4, t5, t6, t7, t8, t9, t10, t11, t12⟩ := rcBox hx2
        have HB := Shut.mk (And.intro hb2 (And.intro hw2 hx2))
        clear hW2 hb2 hx2 hw2 hgood hbx hsb hxa hmb s0 s1 s2 s3 s4 s5 s6 s7 s8 s9 s10 s11 s12
        go_wp2_with fail
        refine hN2.mono ?_
        rintro e W4 ⟨L4, p4, c4, rfl, H4⟩
        clear hN2 t0 t1 t2 t3 t4 t5 t6 t7 t8 t9 t10 t11 t12 d0 d1 d2 d3
        obtain ⟨z, hz⟩ : ∃ z, P.nextCode x.r = z := ⟨_, rfl⟩
        obtain ⟨Q, hQ⟩ : ∃ Q, P.next x.r = Q := ⟨_, rfl⟩
        obtain ⟨nq, hnq⟩ : ∃ nq, Q.kp.length = nq := ⟨_, rfl⟩
        rw [hQ] at H4
        rw [hz, hQ, hnq]
        have HZ := Shut.mk (And.intro hz (And.intro hQ hnq))
        clear hz hQ hnq
        go_upto_region 9 with fail
        obtain ⟨W5, hW5⟩ : ∃ W5, W4.alloc (.cells #[.int .i64 Q.me, .slice p4 nq c4, .int .i64 Q.tm, .int .i64 Q.sq] 25) = W5 := ⟨_, rfl⟩
        rw [hW5]
        have hb5 : Below W4.heap.size W4 W5 := by rw [← hW5]; exact (Below.refl _ _).alloc (Nat.le_refl _) _
        have hq5 : W5.heap[W4.heap.size]? = some (.cells #[.int .i64 Q.me, .slice p4 nq c4, .int .i64 Q.tm, .int .i64 Q.sq] 25 (0, 0)) := by rw [← hW5, heap_alloc_eq, if_pos rfl]
        have hb4 : Below wr.heap.size wr W5 := HB.out.1.trans ((H4.out.2.trans (hb5.mono H4.out.2.size)).mono HB.out.1.size)
        have HW := Shut.mk (And.intro hb4 (And.intro hb5 hq5))
        have hs4 := H4.out.2.size
        have hs2 := HB.out.1.size
        have hs5 := hb5.size
        clear hW5 hb5 hq5 hb4
        rcases eqDec z 0 with ⟨y1, y2, y3, y4⟩ | ⟨y1, y2, y3, y4⟩
        case inr =>
          clear y1
          have R : Shut (mb < W5.heap.size ∧ ∃ P D L p cp nm, OncI w W5 pb mb m' (q + 1) P D L p cp nm) := ⟨⟨by have := HX.out.2.1; omega, P, D, L0, p0, c0, nm, HX.out.1.stay HW.out.1⟩⟩
          go_wp2
          go_roundw
          case rel => exact ⟨q + 1, by omega, by go_num, R⟩
          case measure => simp [intOf]; omega
        case inl =>
          subst y1
          have hf := once_facts HX.out.1.told HZ.out.1
          rw [HZ.out.2.1] at hf
          have HF := Shut.mk hf
          clear hf y2 y3 y4
          obtain ⟨d0, d1, d2, d3⟩ := plBox (blkB HX.out.2.2.2.2 HW.out.1)
          have hr5 := blkB HB.out.2.2 ((H4.out.2.trans (HW.out.2.1.mono H4.out.2.size)))
          obtain ⟨t0, t1, t2, t3, t4, t5, t6, t7, t8, t9, t10, t11, t12⟩ := rcBox hr5
          have hmp5 : HdMap W5 mb nm (fun h => decide (h ∈ D)) := HX.out.1.map.belowW HW.out.1
          have hlk := hmp5.look (x := x.r.h) HX.out.2.2.2.1.2.2.2.2.1
          simp only [Hd.val] at hlk
          have hokQ := HF.out.1
          have hfew := HX.out.1.few
          go_upto_region 10 with fail
          go_cut [68] from 34 to 127 (fun v wx => v = .bool false ∧ wx = W5)
          case first =>
            by_cases k3 : (x.r.k == 3) = true
            · have g := HF.out.2.2.2.2.2.1 (by simpa using k3)
              have hd : decide (x.r.h ∈ D) = false := decide_eq_false g.1
              rw [hd] at hlk
              have hT : (x.r.h.T == m') = true := by have := g.2.2.trans HX.out.1.hme; simpa using this
              have hLt : ¬ x.r.h.L ≤ P.tm := by have := g.2.1; omega
              clear g hd hr5 hmp5 hokQ hfew
              go_wp2
              go_meet
              exact ⟨by rw [show (x.r.h.T != m') = false from by rw [bne, hT]; rfl], rfl⟩
            · rw [Bool.not_eq_true] at k3
              clear hlk hr5 hmp5 hokQ hfew
              go_wp2
              go_meet
              exact ⟨rfl, rfl⟩
          case rest =>
            obtain ⟨rfl, hwc⟩ := hcut
            rw [hwc]
            clear hwc hlk
            go_upto_region 12 with fail
            refine onceRegion x.r x.da x.ca x.dc x.cc mb wr.heap.size nm (fun h => decide (h ∈ D)) _ _ _ _ _ _ _ _ _ _ _ _ _ _ _ _ _ _ _ _ _ _ _ _ _ _ _ _ _ _ _ _ _ _ _ _ _ _ _ _ _ _ _ _ _ _ _ _ _ _ _ _ _ _ _ _ _ _ _ _ _ _ _ _ _ _ _ _ _ _ _ _ _ _ _ _ _ _ _ _ _ _ _ _ _ _ _ _ _ _ _ _ _ _ _ _ _ _ _ _ _ _ _ _ _ _ _ _ _ _ _ _ _ _ _ _ _ _ _ _ _ _ _ _ _ _ W5 _ ⟨hr5⟩ ⟨hmp5⟩ (by unfold maxLen; omega) HX.out.2.2.2.1.2.2.2.2.1 ?_
            rintro w6 v69 v70 v71 v72 v73 v74 v75 v76 v77 v78 v79 v80 hm6 ht6
            have M6 := Shut.mk (OncM.of HX.out.1 HX.out.2.1 HB.out.1 H4.out.2 H4.out.1 HW.out.2.1 (show PlBoxed W5 W4.heap.size Q p4 c4 from by unfold PlBoxed; rw [HZ.out.2.2]; exact HW.out.2.2) (by have := HX.out.2.1; omega) ht6 hm6)
            have hs6 : W5.heap.size ≤ w6.heap.size := ht6.grown.size
            clear hm6 ht6 hr5 hmp5 d0 d1 d2 d3 t0 t1 t2 t3 t4 t5 t6 t7 t8 t9 t10 t11 t12
            have hgQ := M6.out.pl.good hokQ
            have hCk := check_place Q.me Q.tm Q.sq p4 c4 L4 w6 hgQ.1 hgQ.2.1 hgQ.2.2.2.1 (by rw [hgQ.2.2.1]; exact hgQ.2.2.2.2.1)
            rw [hgQ.2.2.2.2.2, hgQ.2.2.1, HZ.out.2.2, show Pl.code ⟨Q.me, Q.kp, Q.tm, Q.sq⟩ = 0 from code_zero.2 hokQ] at hCk
            have hqb := M6.out.qbox
            unfold PlBoxed at hqb
            rw [HZ.out.2.2] at hqb
            obtain ⟨g0, g1, g2, g3⟩ := plBox hqb
            have hnq : nq ≤ maxLen := by rw [← HZ.out.2.2, ← hgQ.2.2.1]; exact hgQ.2.2.2.1
            unfold maxLen at hnq
            clear hgQ hqb
            go_wp2_with fail
            refine hCk.mono ?_
            rintro e w7 ⟨rfl, hb7⟩
            have M7 := Shut.mk (M6.out.belowM hb7)
            have hs7 := hb7.size
            clear hCk hb7 g0 g1 g2 g3
            have hqb := M7.out.qbox
            have hpb := M7.out.pbox
            unfold PlBoxed at hqb hpb
            rw [HZ.out.2.2] at hqb
            obtain ⟨g0, g1, g2, g3⟩ := plBox hqb
            obtain ⟨d0, d1, d2, d3⟩ := plBox hpb
            have c1 : ¬ Q.tm < P.tm := by have := HF.out.2.2.1; omega
            have c2 : ¬ Q.sq < P.sq := by have := HF.out.2.2.2.1; omega
            have c3 : Q.me = m' := HF.out.2.1.trans HX.out.1.hme
            rw [c3] at g0
            clear hqb hpb c3
            go_upto_region 16 with fail
            have HJ0 : Shut (OncM w w7 pb mb W4.heap.size P Q (toldBy x.r D) p0 c0 L4 p4 c4 (nm + 1) ∧ W4.heap.size ≤ w7.heap.size) := ⟨⟨M7.out, by omega⟩⟩
            clear M6 M7 g0 g1 g2 g3 d0 d1 d2 d3 c1 c2
            go_loopw [107] (fun i wv => ∃ j : Nat, j ≤ nq ∧ i = .int .i64 j ∧ Shut (OncM w wv pb mb W4.heap.size P Q (toldBy x.r D) p0 c0 L4 p4 c4 (nm + 1) ∧ W4.heap.size ≤ wv.heap.size)) (fun i _ => nq - (intOf i).toNat)
            case atStart => exact ⟨0, Nat.zero_le _, rfl, HJ0⟩
            case round =>
              clear HJ0
              obtain ⟨i, hi, rfl, HJ⟩ := hrel
              by_cases hlt2 : i < nq
              · have hg := HJ.out.1.pl.good hokQ
                obtain ⟨y, hy⟩ : ∃ y, L4[i]? = some y := ⟨_, List.getElem?_eq_getElem (by rw [hg.2.2.1, HZ.out.2.2]; exact hlt2)⟩
                have hym := List.mem_of_getElem? hy
                have hyo := (hg.2.1 y hym).ints.h
                have hyk : y.k ∈ Q.kp := by rw [← hg.2.2.2.2.2]; exact List.mem_map.2 ⟨y, hym, rfl⟩
                have hdl := HF.out.2.2.2.2.2.2 y.k hyk
                have hfy : (fun h => decide (h ∈ toldBy x.r D)) y.k.h = y.k.dl := by
                  show decide (y.k.h ∈ toldBy x.r D) = y.k.dl
                  cases hb : y.k.dl with
                  | true => exact decide_eq_true (hdl.2 hb)
                  | false => exact decide_eq_false (fun e => by have := hdl.1 e; rw [hb] at this; cases this)
                have hLv := hg.1
                have hpe : ∃ b o, p4 = some ⟨b, o, none⟩ := hLv.some (k := 16 * i) (by rw [kpCells_length, hg.2.2.1, HZ.out.2.2]; omega)
                obtain ⟨gl, ol, hpe⟩ := hpe
                rw [hpe] at hLv
                have s0 : wr.cell? ⟨gl, ol + i * 16, none⟩ = some (.int .i64 y.k.h.F) := kp_cell ⟨hLv, hy⟩ 0 rfl
                have s1 : wr.cell? ⟨gl, ol + i * 16 + 1, none⟩ = some (.int .i64 y.k.h.Q) := kp_cell ⟨hLv, hy⟩ 1 rfl
                have s2 : wr.cell? ⟨gl, ol + i * 16 + 2, none⟩ = some (.int .i64 y.k.h.T) := kp_cell ⟨hLv, hy⟩ 2 rfl
                have s3 : wr.cell? ⟨gl, ol + i * 16 + 3, none⟩ = some (.int .i64 y.k.h.L) := kp_cell ⟨hLv, hy⟩ 3 rfl
                have s4 : wr.cell? ⟨gl, ol + i * 16 + 4, none⟩ = some (.int .i64 y.k.h.B) := kp_cell ⟨hLv, hy⟩ 4 rfl
                have s5 : wr.cell? ⟨gl, ol + i * 16 + 5, none⟩ = some (.int .i64 y.k.h.K) := kp_cell ⟨hLv, hy⟩ 5 rfl
                have s6 : wr.cell? ⟨gl, ol + i * 16 + 6, none⟩ = some (.bool y.k.own) := kp_cell ⟨hLv, hy⟩ 6 rfl
                have s7 : wr.cell? ⟨gl, ol + i * 16 + 7, none⟩ = some (.slice y.ca y.k.c.length y.cc) := kp_cell ⟨hLv, hy⟩ 7 rfl
                have s8 : wr.cell? ⟨gl, ol + i * 16 + 8, none⟩ = some (.slice y.ya y.ys.length y.yc) := kp_cell ⟨hLv, hy⟩ 8 rfl
                have s9 : wr.cell? ⟨gl, ol + i * 16 + 9, none⟩ = some (.int .i64 y.k.sh) := kp_cell ⟨hLv, hy⟩ 9 rfl
                have s10 : wr.cell? ⟨gl, ol + i * 16 + 10, none⟩ = some (.int .i64 y.k.gv) := kp_cell ⟨hLv, hy⟩ 10 rfl
                have s11 : wr.cell? ⟨gl, ol + i * 16 + 11, none⟩ = some (.int .i64 y.k.tw) := kp_cell ⟨hLv, hy⟩ 11 rfl
                have s12 : wr.cell? ⟨gl, ol + i * 16 + 12, none⟩ = some (.int .i64 y.k.tr) := kp_cell ⟨hLv, hy⟩ 12 rfl
                have s13 : wr.cell? ⟨gl, ol + i * 16 + 13, none⟩ = some (.slice y.ta y.k.tk.length y.tc) := kp_cell ⟨hLv, hy⟩ 13 rfl
                have s14 : wr.cell? ⟨gl, ol + i * 16 + 14, none⟩ = some (.bool y.k.dl) := kp_cell ⟨hLv, hy⟩ 14 rfl
                have s15 : wr.cell? ⟨gl, ol + i * 16 + 15, none⟩ = some (.bool y.k.pg) := kp_cell ⟨hLv, hy⟩ 15 rfl
                rw [hpe]
                clear hg hym hyk hdl hLv hy
                go_upto_region 18 with fail
                obtain ⟨Wk, hWk⟩ : ∃ Wk, wr.alloc (.cells #[.int .i64 y.k.h.F, .int .i64 y.k.h.Q, .int .i64 y.k.h.T, .int .i64 y.k.h.L, .int .i64 y.k.h.B, .int .i64 y.k.h.K, .bool y.k.own, .slice y.ca y.k.c.length y.cc, .slice y.ya y.ys.length y.yc, .int .i64 y.k.sh, .int .i64 y.k.gv, .int .i64 y.k.tw, .int .i64 y.k.tr, .slice y.ta y.k.tk.length y.tc, .bool y.k.dl, .bool y.k.pg] 46) = Wk := ⟨_, rfl⟩
                rw [hWk]
                have hbk : Below wr.heap.size wr Wk := by rw [← hWk]; exact (Below.refl _ _).alloc (Nat.le_refl _) _
                have hbx : Shut (Wk.heap[wr.heap.size]? = some (.cells #[.int .i64 y.k.h.F, .int .i64 y.k.h.Q, .int .i64 y.k.h.T, .int .i64 y.k.h.L, .int .i64 y.k.h.B, .int .i64 y.k.h.K, .bool y.k.own, .slice y.ca y.k.c.length y.cc, .slice y.ya y.ys.length y.yc, .int .i64 y.k.sh, .int .i64 y.k.gv, .int .i64 y.k.tw, .int .i64 y.k.tr, .slice y.ta y.k.tk.length y.tc, .bool y.k.dl, .bool y.k.pg] 46 (0, 0))) := ⟨by rw [← hWk, heap_alloc_eq, if_pos rfl]⟩
                have R : Shut (OncM w Wk.drew pb mb W4.heap.size P Q (toldBy x.r D) p0 c0 L4 p4 c4 (nm + 1) ∧ W4.heap.size ≤ Wk.heap.size) := ⟨⟨HJ.out.1.belowM hbk.drew, by have := HJ.out.2; have := hbk.size; omega⟩⟩
                have hmk : Shut (HdMap Wk mb (nm + 1) (fun h => decide (h ∈ toldBy x.r D))) := ⟨HJ.out.1.map.belowW hbk⟩
                clear hWk hbk s0 s1 s2 s3 s4 s5 s6 s7 s8 s9 s10 s11 s12 s13 s14 s15 HJ
                refine onceRegion2 m' y mb wr.heap.size (nm + 1) (fun h => decide (h ∈ toldBy x.r D)) _ _ _ _ _ _ _ _ _ _ _ _ _ _ _ _ _ _ _ _ _ _ _ _ _ _ _ _ _ _ _ _ _ _ _ _ _ _ _ _ _ _ _ _ _ _ _ _ _ _ _ _ _ _ _ _ _ _ _ _ _ _ _ _ _ _ _ _ _ _ _ _ _ _ _ _ _ _ _ _ _ _ _ _ _ _ _ _ _ _ _ _ _ _ _ _ _ _ _ _ _ _ _ _ _ _ _ _ _ _ _ _ _ _ _ _ _ _ _ _ _ _ _ _ _ Wk _ hbx hmk hyo hfy ⟨?_⟩
                intro v111 v112 v113 v114 v115 v116 v117 v118 v119 v120 v121 v122 v123
                clear hbx hmk hyo hfy
                rw [hpe] at R
                go_wp2
                go_roundw
                case rel => exact ⟨i + 1, by omega, by go_num, R⟩
                case measure => simp [intOf]; omega
              · obtain rfl : i = nq := by omega
                have hqb := HJ.out.1.qbox
                have hpb := HJ.out.1.pbox
                unfold PlBoxed at hqb hpb
                rw [HZ.out.2.2] at hqb
                obtain ⟨g0, g1, g2, g3⟩ := plBox hqb
                obtain ⟨d0, d1, d2, d3⟩ := plBox hpb
                have f0 := frzB hpb 0
                have f1 := frzB hpb 1
                have f2 := frzB hpb 2
                have f3 := frzB hpb 3
                go_upto_region 22 with fail
                obtain ⟨W9, hW9, hb9, hk9, hB9⟩ := box4 wr pb 25 _ _ _ _ (.int .i64 Q.me) (.slice p4 i c4) (.int .i64 Q.tm) (.int .i64 Q.sq) hpb
                rw [hW9]
                have R : Shut (mb < W9.heap.size ∧ ∃ P D L p cp nm, OncI w W9 pb mb m' (q + 1) P D L p cp nm) := ⟨⟨by have := HJ.out.2; have := (hB9 0 wr (Nat.zero_le _) (Below.refl _ _)).size; have := HX.out.2.1; omega, Q, toldBy x.r D, L4, p4, c4, nm + 1, HJ.out.1.next hokQ (HF.out.2.1.trans HX.out.1.hme) HF.out.2.2.2.2.1 (by omega) (by unfold PlBoxed; rw [HZ.out.2.2]; exact hb9) hk9 hB9⟩⟩
                clear hW9 hb9 hk9 hB9 hqb hpb g0 g1 g2 g3 d0 d1 d2 d3 f0 f1 f2 f3 HJ
                go_wp2
                go_roundw
                case rel => exact ⟨q + 1, by omega, by go_num, R⟩
                case measure => simp [intOf]; omega
      · obtain rfl : q = N := by omega
        obtain ⟨hmb, P, D, L0, p0, c0, nm, hI⟩ := HI.out
        have R := Shut.mk hI.below
        clear HI hI
        go_wp2
        go_ret
        exact ⟨rfl, R.out⟩

end Go.Proofs.YtpmgmddicbpgjaaDoor

/-
  What came in, opened: byte slices and slices of byte slices, whatever their readings are. Nothing of any program.
-/
namespace Go.Proofs.YtpmgmddicbpgjaaDoor
open Go.ChangeShapes Go.WideShapes Go.ChangeAt Go.RowKit
set_option linter.unusedVariables false
set_option linter.unusedSimpArgs false

section
variable {H : Type} {enc : TypeId × Value → H} {P : Program} {w : World} {held : Bool}

theorem u8_of_wf {n : Int} (h : (Lit.int .u8 n).wf = true) : 0 ≤ n ∧ n < 256 := by
  have : 0 ≤ n ∧ n ≤ 255 := by simpa [Lit.wf, IntKind.min, IntKind.max, IntKind.signed, IntKind.bits] using h
  omega

/-- an address of cells has no spot of its own -/
theorem lies_addr {a : Addr} {k : Nat} {u u0 : Value} (h0 : w.cell? (a.add 0) = some u0) (hk : w.cell? (a.add k) = some u) : ∃ b off, some a = some (⟨b, off, none⟩ : Addr) ∧ w.cell? ⟨b, off + k, none⟩ = some u := by
  obtain ⟨b, off, spot⟩ := a
  have hspot : spot = none := by simpa [Addr.add] using World.cell?_spot h0
  subst hspot
  exact ⟨b, off, rfl, by simpa [Addr.add_lit] using hk⟩

theorem open_bytes {t e : TypeId} {fuel : Nat} {v : Value} {x : DataW H × List MemPlace} (ht : P.underlying t = some (.slice e)) (he : P.underlying e = some (.int .u8)) (hc : P.cellsOf e = 1)
    (h : DataW.trod enc P w 0 (fun _ => true) held fuel t [v] = some x) : ∃ a cap l, v = .slice a l.length cap ∧ Lies w a (bs l) ∧ l.length ≤ maxLen := by
  rcases open_ints ht he hc h with ⟨hcs, _⟩ | ⟨a, len, cap, zs, hcs, _, hl, hm, hz, _, hcell, hwz⟩
  · simp at hcs
    subst hcs
    exact ⟨none, 0, [], rfl, Lies.nil _ _, by simp⟩
  · simp at hcs hz
    subst hcs
    refine ⟨some a, cap, (zs.take len).map fun z => UInt8.ofNat z.toNat, ?_, ?_, ?_⟩
    · simp; omega
    · intro k u hu
      have hk : k < len := by
        obtain ⟨hk, _⟩ := List.getElem?_eq_some_iff.1 hu
        simp [bs] at hk
        omega
      have hkz : k < zs.length := by omega
      have hcl := hcell k hkz
      have hwf := u8_of_wf (hwz zs[k] (by simp))
      have hu' : u = .int .u8 (zs[k]) := by
        simp [bs, hk, hkz] at hu
        rw [← hu]
        congr 1
        omega
      subst hu'
      have e2 : zs.getD k 0 = zs[k] := by simp [List.getD, hkz]
      rw [e2] at hcl
      exact lies_addr (hcell 0 (by omega)) hcl
    · simp; omega

theorem open_blocks {t e e8 : TypeId} {fuel : Nat} {v : Value} {d : DataW H} {ps : List MemPlace} (ht : P.underlying t = some (.slice e)) (hte : P.underlying e = some (.slice e8)) (he : P.underlying e8 = some (.int .u8)) (hc : P.cellsOf e = 1) (hc8 : P.cellsOf e8 = 1)
    (h : DataW.trod enc P w 0 (fun _ => true) held fuel t [v] = some (d, ps)) :
    ∃ a cap bl, v = .slice a bl.length cap ∧ Lies w a (bl.map Blk.val) ∧ AllIn w bl ∧ bl.length ≤ maxLen ∧ ((d = .nil ∧ bl = []) ∨ ∃ elems sp, d = .slice elems sp ∧ elems.length = bl.length) := by
  rcases Go.Deep.open_slice1 ht hc h with ⟨hcs, hx⟩ | ⟨a, len, cap, m, n, V, D, Pl, hcs, _, hl, hm, hmm, hx, hcell⟩
  · simp at hcs hx
    subst hcs
    exact ⟨none, 0, [], rfl, Lies.nil _ _, (fun b hb => by simp at hb), by simp, .inl ⟨hx.1, rfl⟩⟩
  · simp at hcs hx hmm
    subst hcs hmm
    have hb : ∀ i, i < m → ∃ b : Blk, V i = b.val ∧ Lies w b.a (bs b.l) ∧ b.l.length ≤ maxLen := fun i hi => by
      obtain ⟨a', cap', l, e1, e2, e3⟩ := open_bytes hte he hc8 (hcell i hi).2
      exact ⟨⟨a', cap', l⟩, e1, e2, e3⟩
    have : Inhabited Blk := ⟨⟨none, 0, []⟩⟩
    obtain ⟨B, hB⟩ := Go.Deep.choose_lt hb
    refine ⟨some a, m, (List.range len).map B, by simp, ?_, ?_, by simp; omega, .inr ⟨_, _, hx.1, by simp⟩⟩
    · intro k u hu
      have hk : k < len := by
        obtain ⟨hk, _⟩ := List.getElem?_eq_some_iff.1 hu
        simpa using hk
      have hu' : u = V k := by
        simp [hk] at hu
        rw [← hu, (hB k (by omega)).1]
      subst hu'
      exact lies_addr (hcell 0 (by omega)).1 (hcell k (by omega)).1
    · intro b hb
      obtain ⟨i, hi, rfl⟩ := List.mem_map.1 hb
      exact (hB i (by simp at hi; omega)).2
end
end Go.Proofs.YtpmgmddicbpgjaaDoor
