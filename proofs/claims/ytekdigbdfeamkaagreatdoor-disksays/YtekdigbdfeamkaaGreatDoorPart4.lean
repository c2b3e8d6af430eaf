import Derived.Test.YtekdigbdfeamkaaGreatDoorPart2
import Derived.Test.YtekdigbdfeamkaaGreatDoorPart3
import Derived.Laws.StructEq
import Derived.Laws.EntriesVeiled
import Derived.Test.YtekdigbdfeamkaaGreatDoorPart1
import Derived.Laws.BitsAllLaws
import Derived.Laws.CopyOwn
/-
  Chapter 7, the reference: CheckRec's two closures; a head held against none.
-/
namespace Go.Proofs.YtekdigbdfeamkaaGreatDoor
open Go.RowKit Go.Maps
set_option linter.unusedVariables false
set_option linter.unusedSimpArgs false

/-- is the letter among these? -/
def hasB (l : List UInt8) (c : UInt8) : Bool := decide (0 ≤ Lib.indexByte l c)

theorem checkRec1_any (s : ByteArray) (c : UInt8) (ub : Nat) (w : World) (hu : w.cell? ⟨ub, 0, none⟩ = some (.string s)) :
    Calls Tryz.prog 61 #[.string ⟨#[c]⟩, .pointer (some ⟨ub, 0, none⟩)] w fun e w' => e = .returned (.bool (hasB s.data.toList c)) ∧ w = w' := by
  have hC := Tryz.strings_Contains_one s c w
  go_enter Tryz.func61, Tryz.ntmps61
  go_wp2_with fail
  refine hC.mono ?_
  rintro e w1 ⟨rfl, rfl⟩
  clear hC
  generalize hx : decide (0 ≤ Lib.indexByte s.data.toList c) = x
  have HX := Shut.mk hx
  clear hx
  go_wp2
  go_ret
  exact ⟨by rw [hasB, HX.out]; rfl, rfl⟩

theorem entersRec1 : ∀ args w, (callFunc 61 args).run Tryz.prog w = .ok (.enter 61 args) w := enters_of Tryz.func61 (by kernel_rfl) rfl
theorem entersRec2 : ∀ args w, (callFunc 63 args).run Tryz.prog w = .ok (.enter 63 args) w := enters_of Tryz.func63 (by kernel_rfl) rfl

theorem checkRec2_any (s : ByteArray) (c : UInt8) (z : Bool) (ub fb : Nat) (w : World) (hu : w.cell? ⟨ub, 0, none⟩ = some (.string s)) (hf : w.cell? ⟨fb, 0, none⟩ = some (.func (.func 61) #[] #[.pointer (some ⟨ub, 0, none⟩)])) :
    Calls Tryz.prog 63 #[.string ⟨#[c]⟩, .bool z, .pointer (some ⟨fb, 0, none⟩)] w fun e w' => e = .returned (.bool (hasB s.data.toList c || z)) ∧ w = w' := by
  have eg := entersRec1
  have hC := checkRec1_any s c ub w hu
  generalize hasB s.data.toList c = x at *
  go_enter Tryz.func63, Tryz.ntmps63
  go_wp2_with fail
  refine hC.mono ?_
  rintro e w1 ⟨rfl, rfl⟩
  clear hC
  cases x
  · go_wp2
    go_ret
    exact ⟨rfl, rfl⟩
  · go_wp2
    go_ret
    exact ⟨rfl, rfl⟩

end Go.Proofs.YtekdigbdfeamkaaGreatDoor

/-
  Chapter 7: two heads that are compared whole.
-/
namespace Go.Proofs.YtekdigbdfeamkaaGreatDoor
open Go.RowKit
set_option linter.unusedVariables false
set_option linter.unusedSimpArgs false

instance : DecidableEq Hd := fun a b => by
  obtain ⟨a1, a2, a3, a4, a5, a6⟩ := a
  obtain ⟨b1, b2, b3, b4, b5, b6⟩ := b
  rw [Hd.mk.injEq]
  exact inferInstance

theorem eqlHead (a b : Hd) (W : World) : (binOp .eql 28 a.val b.val).run Tryz.prog W = .ok (.bool (decide (a = b))) W := by
  obtain ⟨a1, a2, a3, a4, a5, a6⟩ := a
  obtain ⟨b1, b2, b3, b4, b5, b6⟩ := b
  simp only [Hd.val, Hd.mk.injEq]
  have hs : Tryz.prog.underlying 28 = some (.struct (Tryz.prog.fieldsOf 28)) := by kernel_rfl
  have hp : Tryz.prog.stoodInHeld 28 = false := by kernel_rfl
  have hs2 : Tryz.prog.underlying 26 = some (.struct (Tryz.prog.fieldsOf 26)) := by kernel_rfl
  have hp2 : Tryz.prog.stoodInHeld 26 = false := by kernel_rfl
  have hi := Tryz.underlying3
  rw [run_eql_struct, run_equalIn_agg W 9999 _ _ _ hs hp]
  have hE : ∀ (x y : Int) (w : World) (d : Nat), (Op.equalIn (d + 1) 3 (.int .i64 x) (.int .i64 y)).run Tryz.prog w = .ok (x == y) w := fun x y w d => run_equalIn_int w d 3 .i64 .i64 x y hi
  have hP : ∀ (w : World) (d : Nat), (Op.equalIn (d + 2) 26 (.agg #[.int .i64 a5, .int .i64 a6]) (.agg #[.int .i64 b5, .int .i64 b6])).run Tryz.prog w = .ok (decide (a5 = b5 ∧ a6 = b6)) w := fun w d => by
    rw [run_equalIn_agg w (d + 1) _ _ _ hs2 hp2]
    simp only [Program.fieldsOf, Tryz.underlying26]
    simp [Op.eqFields, go_sem, hE]
    by_cases h5 : a5 = b5 <;> by_cases h6 : a6 = b6 <;> simp [h5, h6]
  simp only [Program.fieldsOf, Tryz.underlying28]
  simp [Op.eqFields, go_sem, hE, hP]
  by_cases h1 : a1 = b1 <;> by_cases h2 : a2 = b2 <;> by_cases h3 : a3 = b3 <;> by_cases h4 : a4 = b4 <;> by_cases h5 : a5 = b5 <;> by_cases h6 : a6 = b6 <;> simp [h1, h2, h3, h4, h5, h6]

end Go.Proofs.YtekdigbdfeamkaaGreatDoor

/-
  Chapter 7, the reference: CheckRec, where the kind is none.
-/
namespace Go.Proofs.YtekdigbdfeamkaaGreatDoor
open Go.RowKit Go.Maps
set_option linter.unusedVariables false
set_option linter.unusedSimpArgs false

theorem blkB {w w' : World} {b : Nat} {o : Obj} (h : w.heap[b]? = some o) (hb : Below w.heap.size w w') : w'.heap[b]? = some o := by
  refine (hb.block b ?_).trans h
  rcases Nat.lt_or_ge b w.heap.size with h1 | h1
  · exact h1
  · rw [Array.getElem?_eq_none h1] at h; cases h

theorem cellB {w : World} {b : Nat} {c : Array Value} {t : TypeId} {f : Nat × Nat} (h : w.heap[b]? = some (.cells c t f)) (j : Nat) (v : Value) (hv : c[j]? = some v) : w.cell? ⟨b, j, none⟩ = some v := by
  simp only [World.cell?, h]
  simpa using hv

set_option maxRecDepth 8000 in
theorem checkRec_none (k p n y : Int) (h : Hd) (id : Int) (da : Option Addr) (dn dc : Nat) (ca : Option Addr) (cn cc : Nat) (w : World) (hk : (Lit.int .i64 k).wf = true) (hu : usesL k = none) :
    Calls Tryz.prog 39 #[.agg #[.int .i64 k, .int .i64 p, .int .i64 n, .int .i64 y, .int .i64 h.F, .int .i64 h.Q, .int .i64 h.T, .int .i64 h.L, .int .i64 h.B, .int .i64 h.K, .int .i64 id, .slice da dn dc, .slice ca cn cc]] w fun e w' => e = .returned (.int .i64 4) ∧ Below w.heap.size w w' := by
  obtain ⟨F, Q, T, L, B, K⟩ := h
  simp only
  obtain ⟨W, hW⟩ : ∃ W, w.alloc (.cells #[.int .i64 k, .int .i64 p, .int .i64 n, .int .i64 y, .int .i64 F, .int .i64 Q, .int .i64 T, .int .i64 L, .int .i64 B, .int .i64 K, .int .i64 id, .slice da dn dc, .slice ca cn cc] 33) = W := ⟨_, rfl⟩
  have hBl : Below w.heap.size w W := by rw [← hW]; exact (Below.refl _ _).alloc (Nat.le_refl _) _
  have hbk : W.heap[w.heap.size]? = some (.cells #[.int .i64 k, .int .i64 p, .int .i64 n, .int .i64 y, .int .i64 F, .int .i64 Q, .int .i64 T, .int .i64 L, .int .i64 B, .int .i64 K, .int .i64 id, .slice da dn dc, .slice ca cn cc] 33 (0, 0)) := by rw [← hW, heap_alloc_eq, if_pos rfl]
  have hmm := @run_makeMap Tryz.prog
  obtain ⟨w1, w2, w3, w4, w5, w6, w7, w8, r1, r2, r3, r4, r5, r6, r7, r8, hown, hb8⟩ := table_run W
  obtain ⟨s, hlk, hs⟩ := lookK hown k hk
  rw [hu] at hlk
  have c0 : w8.cell? ⟨w.heap.size, 0, none⟩ = some (.int .i64 k) := cellB (blkB hbk hb8) 0 _ rfl
  have hB8 := hBl.trans (hb8.mono hBl.size)
  simp only [Option.isSome_none] at hlk
  clear hown hs hbk hBl hb8
  go_enter Tryz.func39, Tryz.ntmps39
  have hF : Below w.heap.size w ((w8.alloc (.cells #[.string s] 9)).alloc (.cells #[.func (.func 61) #[] #[.pointer (some ⟨w8.heap.size, 0, none⟩)]] 106)) := (hB8.alloc hB8.size _).alloc (by have := hB8.size; simp; omega) _
  go_wp2
  go_ret
  exact ⟨rfl, hF⟩

end Go.Proofs.YtekdigbdfeamkaaGreatDoor

/-
  Chapter 7, the reference: CheckRec, where a part is set that the kind does not use.
-/
namespace Go.Proofs.YtekdigbdfeamkaaGreatDoor
open Go.RowKit Go.Maps
set_option linter.unusedVariables false
set_option linter.unusedSimpArgs false

/-- is every part that the kind (with these letters) does not use left empty? -/
def formB (u : List UInt8) (p n y : Int) (h : Hd) (id : Int) (dn cn : Nat) : Bool :=
  (hasB u 80 || p == 0) && (hasB u 78 || n == 0) && (hasB u 84 || y == 0) && (hasB u 72 || decide (h = ⟨0, 0, 0, 0, 0, 0⟩)) && (hasB u 83 || (id == 0 && (dn : Int) == 0)) && (hasB u 67 || (cn : Int) == 0)

set_option maxHeartbeats 2000000 in
set_option maxRecDepth 8000 in
theorem checkRec_form (k p n y : Int) (h : Hd) (id : Int) (da : Option Addr) (dn dc : Nat) (ca : Option Addr) (cn cc : Nat) (u : List UInt8) (w : World) (hk : (Lit.int .i64 k).wf = true) (hu : usesL k = some u) (hbad : formB u p n y h id dn cn = false) :
    Calls Tryz.prog 39 #[.agg #[.int .i64 k, .int .i64 p, .int .i64 n, .int .i64 y, .int .i64 h.F, .int .i64 h.Q, .int .i64 h.T, .int .i64 h.L, .int .i64 h.B, .int .i64 h.K, .int .i64 id, .slice da dn dc, .slice ca cn cc]] w fun e w' => e = .returned (.int .i64 4) ∧ Below w.heap.size w w' := by
  obtain ⟨F, Q, T, L, B, K⟩ := h
  simp only
  obtain ⟨W, hW⟩ : ∃ W, w.alloc (.cells #[.int .i64 k, .int .i64 p, .int .i64 n, .int .i64 y, .int .i64 F, .int .i64 Q, .int .i64 T, .int .i64 L, .int .i64 B, .int .i64 K, .int .i64 id, .slice da dn dc, .slice ca cn cc] 33) = W := ⟨_, rfl⟩
  have hBl : Below w.heap.size w W := by rw [← hW]; exact (Below.refl _ _).alloc (Nat.le_refl _) _
  have hbk : W.heap[w.heap.size]? = some (.cells #[.int .i64 k, .int .i64 p, .int .i64 n, .int .i64 y, .int .i64 F, .int .i64 Q, .int .i64 T, .int .i64 L, .int .i64 B, .int .i64 K, .int .i64 id, .slice da dn dc, .slice ca cn cc] 33 (0, 0)) := by rw [← hW, heap_alloc_eq, if_pos rfl]
  have hsz : w.heap.size < W.heap.size := by rw [← hW]; simp
  have hmm := @run_makeMap Tryz.prog
  obtain ⟨w1, w2, w3, w4, w5, w6, w7, w8, r1, r2, r3, r4, r5, r6, r7, r8, hown, hb8⟩ := table_run W
  obtain ⟨s, hlk, hs⟩ := lookK hown k hk
  rw [hu] at hlk hs
  simp only [Option.getD_some] at hs
  subst hs
  have c0 : w8.cell? ⟨w.heap.size, 0, none⟩ = some (.int .i64 k) := cellB (blkB hbk hb8) 0 _ rfl
  have hB8 := hBl.trans (hb8.mono hBl.size)
  have hbk8 := blkB hbk hb8
  simp only [Option.isSome_some] at hlk
  clear hown hbk hBl
  obtain ⟨W2, hW2⟩ : ∃ W2, (w8.alloc (.cells #[.string s] 9)).alloc (.cells #[.func (.func 61) #[] #[.pointer (some ⟨w8.heap.size, 0, none⟩)]] 106) = W2 := ⟨_, rfl⟩
  have hF : Below w.heap.size w W2 := by rw [← hW2]; exact (hB8.alloc hB8.size _).alloc (by have := hB8.size; simp; omega) _
  have h82 : Below w8.heap.size w8 W2 := by rw [← hW2]; exact ((Below.refl _ _).alloc (Nat.le_refl _) _).alloc (by simp) _
  have hbk2 := blkB hbk8 h82
  have hub : W2.cell? ⟨w8.heap.size, 0, none⟩ = some (.string s) := by
    refine cellB (c := #[.string s]) (t := 9) (f := (0, 0)) ?_ 0 _ rfl
    rw [← hW2, heap_alloc_eq, if_neg (by simp), heap_alloc_eq, if_pos rfl]
  have hfb : W2.cell? ⟨w8.heap.size + 1, 0, none⟩ = some (.func (.func 61) #[] #[.pointer (some ⟨w8.heap.size, 0, none⟩)]) := by
    refine cellB (c := #[.func (.func 61) #[] #[.pointer (some ⟨w8.heap.size, 0, none⟩)]]) (t := 106) (f := (0, 0)) ?_ 0 _ rfl
    rw [← hW2, heap_alloc_eq, if_pos (by simp)]
  have q1 : W2.cell? ⟨w.heap.size, 1, none⟩ = some (.int .i64 p) := cellB hbk2 1 _ rfl
  have q2 : W2.cell? ⟨w.heap.size, 2, none⟩ = some (.int .i64 n) := cellB hbk2 2 _ rfl
  have q3 : W2.cell? ⟨w.heap.size, 3, none⟩ = some (.int .i64 y) := cellB hbk2 3 _ rfl
  have q4 : W2.cell? ⟨w.heap.size, 4, none⟩ = some (.int .i64 F) := cellB hbk2 4 _ rfl
  have q5 : W2.cell? ⟨w.heap.size, 5, none⟩ = some (.int .i64 Q) := cellB hbk2 5 _ rfl
  have q6 : W2.cell? ⟨w.heap.size, 6, none⟩ = some (.int .i64 T) := cellB hbk2 6 _ rfl
  have q7 : W2.cell? ⟨w.heap.size, 7, none⟩ = some (.int .i64 L) := cellB hbk2 7 _ rfl
  have q8 : W2.cell? ⟨w.heap.size, 8, none⟩ = some (.int .i64 B) := cellB hbk2 8 _ rfl
  have q9 : W2.cell? ⟨w.heap.size, 9, none⟩ = some (.int .i64 K) := cellB hbk2 9 _ rfl
  have q10 : W2.cell? ⟨w.heap.size, 10, none⟩ = some (.int .i64 id) := cellB hbk2 10 _ rfl
  have q11 : W2.cell? ⟨w.heap.size, 11, none⟩ = some (.slice da dn dc) := cellB hbk2 11 _ rfl
  have q12 : W2.cell? ⟨w.heap.size, 12, none⟩ = some (.slice ca cn cc) := cellB hbk2 12 _ rfl
  have hE : ∀ W, (binOp .eql 28 (.agg #[.int .i64 F, .int .i64 Q, .int .i64 T, .int .i64 L, .int .i64 B, .int .i64 K]) (.agg #[.int .i64 0, .int .i64 0, .int .i64 0, .int .i64 0, .int .i64 0, .int .i64 0])).run Tryz.prog W = .ok (.bool (decide ((⟨F, Q, T, L, B, K⟩ : Hd) = ⟨0, 0, 0, 0, 0, 0⟩))) W := fun W => eqlHead ⟨F, Q, T, L, B, K⟩ ⟨0, 0, 0, 0, 0, 0⟩ W
  generalize hz4 : decide ((⟨F, Q, T, L, B, K⟩ : Hd) = ⟨0, 0, 0, 0, 0, 0⟩) = z4 at hE
  have eg := entersRec2
  go_enter Tryz.func39, Tryz.ntmps39
  go_wp2_with fail
  refine (checkRec2_any s 80 (p == 0) w8.heap.size (w8.heap.size + 1) W2 hub hfb).mono ?_
  rintro e _ ⟨rfl, rfl⟩
  clear r1 r2 r3 r4 r5 r6 r7 r8 hmm hlk hb8 hB8 hbk8 h82 hbk2 c0 hW hW2 hsz
  generalize hx1 : (hasB s.data.toList 80 || p == 0) = x1
  cases x1
  · go_wp2
    go_ret
    exact ⟨rfl, hF⟩
  go_wp2_with fail
  refine (checkRec2_any s 78 (n == 0) w8.heap.size (w8.heap.size + 1) W2 hub hfb).mono ?_
  rintro e _ ⟨rfl, rfl⟩
  generalize hx2 : (hasB s.data.toList 78 || n == 0) = x2
  cases x2
  · go_wp2
    go_ret
    exact ⟨rfl, hF⟩
  go_wp2_with fail
  refine (checkRec2_any s 84 (y == 0) w8.heap.size (w8.heap.size + 1) W2 hub hfb).mono ?_
  rintro e _ ⟨rfl, rfl⟩
  generalize hx3 : (hasB s.data.toList 84 || y == 0) = x3
  cases x3
  · go_wp2
    go_ret
    exact ⟨rfl, hF⟩
  go_wp2_with fail
  refine (checkRec2_any s 72 z4 w8.heap.size (w8.heap.size + 1) W2 hub hfb).mono ?_
  rintro e _ ⟨rfl, rfl⟩
  generalize hx4 : (hasB s.data.toList 72 || z4) = x4
  cases x4
  · go_wp2
    go_ret
    exact ⟨rfl, hF⟩
  go_wp2_with fail
  · refine (checkRec2_any s 83 ((dn : Int) == 0) w8.heap.size (w8.heap.size + 1) W2 hub hfb).mono ?_
    rintro e _ ⟨rfl, rfl⟩
    generalize hx5 : (hasB s.data.toList 83 || (dn : Int) == 0) = x5
    cases x5
    · go_wp2
      go_ret
      exact ⟨rfl, hF⟩
    go_wp2_with fail
    refine (checkRec2_any s 67 ((cn : Int) == 0) w8.heap.size (w8.heap.size + 1) W2 hub hfb).mono ?_
    rintro e _ ⟨rfl, rfl⟩
    generalize hx6 : (hasB s.data.toList 67 || (cn : Int) == 0) = x6
    cases x6
    · go_wp2
      go_ret
      exact ⟨rfl, hF⟩
    exfalso
    rename_i hid
    simp_all [formB]
  · refine (checkRec2_any s 83 false w8.heap.size (w8.heap.size + 1) W2 hub hfb).mono ?_
    rintro e _ ⟨rfl, rfl⟩
    generalize hx5 : (hasB s.data.toList 83 || false) = x5
    cases x5
    · go_wp2
      go_ret
      exact ⟨rfl, hF⟩
    go_wp2_with fail
    refine (checkRec2_any s 67 ((cn : Int) == 0) w8.heap.size (w8.heap.size + 1) W2 hub hfb).mono ?_
    rintro e _ ⟨rfl, rfl⟩
    generalize hx6 : (hasB s.data.toList 67 || (cn : Int) == 0) = x6
    cases x6
    · go_wp2
      go_ret
      exact ⟨rfl, hF⟩
    exfalso
    rename_i hid
    simp_all [formB]

end Go.Proofs.YtekdigbdfeamkaaGreatDoor

/-
  'blocks' of the statements; sum.addTo and sum.Add: the contract of each.
-/
namespace Go.Proofs.YtekdigbdfeamkaaGreatDoor
open Go.RowKit
set_option linter.unusedVariables false
set_option linter.unusedSimpArgs false

theorem infoBlk : (Tryz.prog.info? 29).map (fun i => (i.zero, i.size, i.bytes)) = some (some (.slice none 0 0), 1, 24) := by kernel_rfl
theorem infoU8 : (Tryz.prog.info? 5).map (fun i => (i.zero, i.size, i.bytes)) = some (some (.int .u8 0), 1, 1) := by kernel_rfl

theorem blocks_step {w wr w1 : World} {v v' : Value} {bl : List Blk} {k : Nat} (hlt : k < bl.length) (hB : w.heap.size ≤ wr.heap.size) (hb : Below w.heap.size w wr)
    (ho : wr.ownsRow w.heap.size 29 1 v k ((bl.map Blk.val).take k)) (o : Obj)
    (ho' : w1.ownsRow w.heap.size 29 1 v' (k + 1) ((bl.map Blk.val).take k ++ [.slice bl[k].a bl[k].l.length bl[k].cap])) (hg : (wr.alloc o).grownBy w1 v.ownBlock) :
    w1.ownsRow w.heap.size 29 1 v' (k + 1) ((bl.map Blk.val).take (k + 1)) ∧ Below w.heap.size w w1 := by
  refine ⟨?_, ?_⟩
  · rw [List.take_succ_eq_append_getElem (by simpa using hlt)]
    simpa [Blk.val] using ho'
  · refine (hb.alloc hB o).grown hg (by simp; omega) ?_
    intro g hg'
    exact (ho.lt g hg').1

/-- the bytes of a row, by their places -/
def u8at (l : List UInt8) (i : Nat) : Value := .int .u8 ((l[i]?.getD 0).toNat : Int)

theorem row_lies {w : World} {g n : Nat} {l : List UInt8} (h : w.rowIs g 5 n (u8at l)) (hn : l.length = n) : Lies w (some ⟨g, 0, none⟩) (bs l) := by
  refine Lies.mk fun k hk => ?_
  have hk' : k < l.length := by simpa [bs] using hk
  rw [Nat.zero_add, h.cell (by omega)]
  simp [u8at, bs, hk']

/-- the first k bytes are added -/
def xorK (xs ys : List UInt8) (k : Nat) : List UInt8 := xorl (xs.take k) (ys.take k) ++ xs.drop k

theorem xorK_zero (xs ys : List UInt8) : xorK xs ys 0 = xs := by simp [xorK, xorl]

theorem xorK_all {xs ys : List UInt8} (h : ys.length = xs.length) : xorK xs ys xs.length = xorl xs ys := by
  simp [xorK]
  rw [List.take_of_length_le (by omega)]

theorem xorK_get {xs ys : List UInt8} (h : ys.length = xs.length) (k i : Nat) (hi : i < xs.length) :
    (xorK xs ys k)[i]? = some (if i < k then xs[i] ^^^ ys[i] else xs[i]) := by
  unfold xorK xorl
  rw [List.getElem?_append]
  have hl : (List.zipWith (fun x y => x ^^^ y) (List.take k xs) (List.take k ys)).length = min k xs.length := by simp [h]
  rw [hl]
  by_cases hik : i < k
  · rw [if_pos (by omega), List.getElem?_zipWith]
    simp [hik, hi, h]
  · rw [if_neg (by omega)]
    simp [hik]
    rw [List.getElem?_eq_getElem (by omega)]
    simp
    congr 1
    omega

theorem u8xor (x y : UInt8) : bits .xor .u8 (x.toNat : Int) (y.toNat : Int) = ((x ^^^ y).toNat : Int) := by
  rw [u8_xor_nat _ _ x.toNat_lt y.toNat_lt]
  simp

theorem addTo_step {w : World} {g n k : Nat} {xs ys : List UInt8} (hx : k < xs.length) (hy : k < ys.length) (he : ys.length = xs.length) (HX : Hid (xs.length = n)) (hr : w.rowIs g 5 n (u8at (xorK xs ys k))) :
    (w.setCell ⟨g, k, none⟩ (.int .u8 ((xs[k].toNat ^^^ ys[k].toNat : Nat) : Int))).rowIs g 5 n (u8at (xorK xs ys (k + 1))) := by
  refine (hr.set k _).congr fun i hi => ?_
  have hi' : i < xs.length := by rw [HX.out]; exact hi
  simp only [u8at, xorK_get he _ i hi']
  by_cases e : i = k
  · subst e
    simp
  · rw [if_neg e]
    by_cases h : i < k
    · simp [h, show i < k + 1 by omega]
    · simp [h, show ¬ i < k + 1 by omega]


/-- how Add answers -/
def addCode (bl : List Blk) : Int := if chk (lens bl) = 0 then (if bl.length = 0 then 8 else 0) else chk (lens bl)

def sumBl (bl : List Blk) : List UInt8 := sumOf (bl.map Blk.l)

theorem addCode_bad {bl : List Blk} (h : chk (lens bl) ≠ 0) : addCode bl = chk (lens bl) := by simp [addCode, h]

theorem addCode_good {bl : List Blk} (h : addCode bl = 0) : chk (lens bl) = 0 ∧ 0 < bl.length := by
  unfold addCode at h
  by_cases hc : chk (lens bl) = 0
  · rw [if_pos hc] at h
    by_cases h0 : bl.length = 0
    · rw [if_pos h0] at h; omega
    · exact ⟨hc, by omega⟩
  · rw [if_neg hc] at h; exact absurd h hc

/-- all are as long as the first -/
theorem good_lens {bl : List Blk} (h : addCode bl = 0) (h0 : 0 < bl.length) : ∀ i (hi : i < bl.length), bl[i].l.length = bl[0].l.length ∧ 1 ≤ bl[i].l.length ∧ bl[i].l.length ≤ 16 := by
  intro i hi
  obtain ⟨hc, _⟩ := addCode_good h
  have := chk_zero hc i (by simpa [lens] using hi)
  rw [lens_get hi, lens_head h0] at this
  omega

theorem take_map_succ {bl : List Blk} {k : Nat} (h : k < bl.length) (acc : List UInt8) : sumTo acc ((bl.map Blk.l).take (k + 1)) = xorl (sumTo acc ((bl.map Blk.l).take k)) bl[k].l := by
  rw [List.take_succ_eq_append_getElem (by simpa using h), sumTo_append]
  simp [sumTo]

theorem made_row {w : World} {n : Nat} : (w.alloc (.cells (madeCells #[.int .u8 0] n) 5)).rowIs w.heap.size 5 n (u8at (zeros n)) := by
  refine (World.rowIs_made w (.int .u8 0) n 5).congr fun i hi => ?_
  simp [u8at, zeros, hi]

theorem sumTo_take_length {bl : List Blk} {n : Nat} {h0 : 0 < bl.length} (HG : Hid (∀ i (hi : i < bl.length), bl[i].l.length = bl[0].l.length ∧ 1 ≤ bl[i].l.length ∧ bl[i].l.length ≤ 16)) (HN : Hid (n = bl[0].l.length)) (k : Nat) :
    (sumTo (zeros n) ((bl.map Blk.l).take k)).length = n := by
  refine sumTo_length _ _ (by simp [zeros]) fun b hb => ?_
  have hm := List.mem_of_mem_take hb
  obtain ⟨c, hc, rfl⟩ := List.mem_map.1 hm
  obtain ⟨i, hi, rfl⟩ := List.mem_iff_getElem.1 hc
  rw [HN.out]
  exact (HG.out i hi).1

theorem sumBl_eq {bl : List Blk} {n : Nat} {h : 0 < bl.length} (HN : Hid (n = bl[0].l.length)) (h0 : 0 < bl.length) : sumTo (zeros n) ((bl.map Blk.l).take bl.length) = sumBl bl := by
  rw [List.take_of_length_le (by simp), HN.out]
  cases bl with
  | nil => simp at h0
  | cons b r => rfl

/-- what lies in old memory is no block of new memory -/
theorem lies_ne {w : World} {a : Option Addr} {l : List UInt8} {g n : Nat} (h : Lies w a (bs l)) (hg : w.heap.size ≤ g) (hl : Hid (l.length = n)) : ∀ c o, a = some ⟨c, o, none⟩ → c ≠ g ∨ n = 0 := by
  intro c o e
  by_cases h0 : n = 0
  · exact .inr h0
  · refine .inl ?_
    have hl0 : 0 < l.length := by rw [hl.out]; omega
    have hc := h.lt e 0 (by rw [bs_length]; exact hl0)
    have := World.block_lt_of_cell? w _ hc
    simp at this
    omega

end Go.Proofs.YtekdigbdfeamkaaGreatDoor

/-
  cut.Cut: its contract.
-/
namespace Go.Proofs.YtekdigbdfeamkaaGreatDoor
open Go.RowKit
set_option linter.unusedVariables false
set_option linter.unusedSimpArgs false

theorem Lies.takeB {w : World} {a : Option Addr} {l : List UInt8} (h : Lies w a (bs l)) (q : Nat) : Lies w a (bs (l.take q)) := by
  intro k u hu
  refine h k u ?_
  simp only [bs, List.map_take, List.getElem?_take] at hu ⊢
  split at hu
  · exact hu
  · cases hu

theorem Lies.takeV {w : World} {a : Option Addr} {l : List Value} (h : Lies w a l) (q : Nat) : Lies w a (l.take q) := by
  intro k u hu
  refine h k u ?_
  rw [List.getElem?_take] at hu
  split at hu
  · exact hu
  · cases hu

/-- the plan's box -/
def Boxed (w : World) (g : Nat) (B K : Int) : Prop := w.cell? ⟨g, 0, none⟩ = some (.int .i64 B) ∧ w.cell? ⟨g, 1, none⟩ = some (.int .i64 K)

theorem Boxed.mk (w : World) (B K : Int) (t : TypeId) : Boxed (w.alloc (.cells #[.int .i64 B, .int .i64 K] t)) w.heap.size B K := by
  have h := Lies.alloc_new w #[.int .i64 B, .int .i64 K] t
  exact ⟨h.at (k := 0) rfl, h.at (k := 1) rfl⟩

theorem Boxed.below {w w1 : World} {g : Nat} {B K : Int} (h : Boxed w g B K) (hb : Below w.heap.size w w1) : Boxed w1 g B K := by
  have h1 := World.block_lt_of_cell? w _ h.1
  simp at h1
  exact ⟨by rw [(bcell hb).1 g 0 h1]; exact h.1, by rw [(bcell hb).1 g 1 h1]; exact h.2⟩

theorem cutCode_chk {B K : Int} {c : List UInt8} (h : chkP B K ≠ 0) : cutCode B K c = chkP B K := by simp [cutCode, h]

/-- the row of blocks after i rounds: i of them laid behind g -/
def rowAt (g k i : Nat) (j : Nat) : Value := if j < i then .slice (some ⟨g + 1 + j, 0, none⟩) k k else .slice none 0 0

def CutInv (w wr : World) (g0 g n k nb : Nat) (c : List UInt8) (i : Nat) : Prop :=
  wr.heap.size = g + 1 + i ∧ wr.rowIs g 29 nb (rowAt g k i) ∧ (∀ j, j < i → wr.rowIs (g + 1 + j) 5 k (u8at (piece k j c))) ∧ Boxed wr g0 n k ∧ Below w.heap.size w wr

theorem CutInv.start {w w2 : World} {g0 n k nb : Nat} {c : List UInt8} (hx : Boxed w2 g0 n k) (hb : Below w.heap.size w w2) :
    CutInv w (w2.alloc (.cells (madeCells #[.slice none 0 0] nb) 29)) g0 w2.heap.size n k nb c 0 := by
  refine ⟨by simp, (World.rowIs_made w2 _ nb _).congr fun i hi => by simp [rowAt], fun j hj => by omega, hx.below ((Below.refl _ _).alloc (Nat.le_refl _) _), hb.alloc hb.size _⟩

/-- copy into a row that is known whole, as one step of a region that draws its order: the world behind it is named -/
theorem step_copy_row {P : Program} {ops : Array Oper} {o : Oper} {a : Act} {w : World} {K : Act → World → Prop} {Q : Exit → Act → World → Prop} {E : Prop} (hgd : o.guard = none) (d s : Operand) (dT sT : TypeId)
    (ho : o.op = .call { callee := .builtin .copy, args := #[d, s], argTypes := #[dT, sT] }) (elem : TypeId) (hu : P.underlying dT = some (.slice elem)) (hsz : (P.info? elem).map (·.size) = some 1)
    (g off dLen dCap : Nat) (ad : Addr) (sLen sCap : Nat) (hd : a.eval d = .slice (some ⟨g, off, none⟩) dLen dCap) (hs : a.eval s = .slice (some ad) sLen sCap)
    (cur cs : List Value) (t : TypeId) (hg : w.heap[g]? = some (.cells cur.toArray t (0, 0))) (hn : cs.length = Nat.min sLen dLen)
    (hsrc : ∀ j v, cs[j]? = some v → w.cell? (ad.add j) = some v) (hfit : off + cs.length ≤ cur.length) (h1 : ∀ v ∈ cs, v.oneCell' = true)
    (h : K (a.put o.dst (goInt cs.length)) (w.setRow g (splice cur off cs).toArray)) :
    if Region.wanted o (yielded ops a.tmps) = true then Oper.wp P o a w K Q else E := by
  have hw : Region.wanted o (yielded ops a.tmps) = true := by simp [Region.wanted, hgd]
  rw [if_pos hw]
  have hrun := run_copy_row P w dT sT o.type elem g off dLen dCap ad sLen sCap cur.toArray t cs hu hsz hg hn hsrc (by simpa using hfit) h1
  unfold Oper.wp
  simp [execOp, ho, resolve, invoke, builtin, hd, hs, hrun, Result.andThen]
  simp only [splice] at h
  exact h

/-- between the store and the copy -/
def CutMid (w w3 : World) (g0 g n k nb : Nat) (c : List UInt8) (m : Nat) : Prop :=
  w3.heap.size = g + 1 + (m + 1) ∧ w3.rowIs g 29 nb (rowAt g k (m + 1)) ∧ (∀ j, j < m → w3.rowIs (g + 1 + j) 5 k (u8at (piece k j c))) ∧ Boxed w3 g0 n k ∧ Below w.heap.size w w3 ∧
    w3.heap[g + 1 + m]? = some (.cells (List.replicate k (Value.int .u8 0)).toArray 5 (0, 0))

theorem Boxed.setOther {w : World} {g b o : Nat} {B K : Int} {v : Value} (h : Boxed w g B K) (hne : g ≠ b) : Boxed (w.setCell ⟨b, o, none⟩ v) g B K :=
  ⟨by rw [World.cell?_setCell_other _ _ _ _ (by intro e; cases e; exact hne rfl)]; exact h.1, by rw [World.cell?_setCell_other _ _ _ _ (by intro e; cases e; exact hne rfl)]; exact h.2⟩

theorem CutInv.mid {w wr : World} {g0 g n k nb m : Nat} {c : List UInt8} (hI : CutInv w wr g0 g n k nb c m) (hlt : m < nb) (hgg : g0 < g) (hw : w.heap.size ≤ g0) :
    CutMid w ((wr.setCell ⟨g, m, none⟩ (.slice (some ⟨wr.heap.size, 0, none⟩) k k)).alloc (.cells (madeCells #[.int .u8 0] k) 5)) g0 g n k nb c m := by
  obtain ⟨i1, i2, i3, i4, i5⟩ := hI
  refine ⟨by simp; omega, ?_, ?_, ?_, ?_, ?_⟩
  · refine ((i2.set m _).alloc _).congr fun j hj => ?_
    rw [i1]
    simp only [rowAt]
    by_cases e : j = m
    · subst e; simp
    · rw [if_neg e]
      by_cases h : j < m
      · rw [if_pos h, if_pos (by omega)]
      · rw [if_neg h, if_neg (by omega)]
  · exact fun j hj => ((i3 j hj).setOther (by simp; omega) _).alloc _
  · exact (i4.setOther (by omega)).below ((Below.refl _ _).alloc (Nat.le_refl _) _)
  · exact (i5.setCell (by simp; omega) _).alloc (by simp; omega) _
  · rw [heap_alloc_eq, if_pos (by simp; omega)]
    congr 2
    apply Array.ext'
    rw [toList_madeCells_one]

theorem sizeU8 : (Tryz.prog.info? 5).map (·.size) = some 1 := by kernel_rfl

theorem bs_one {cs : List Value} {l : List UInt8} (h : Hid (cs = bs l)) : ∀ v ∈ cs, v.oneCell' = true := by
  rw [h.out]
  intro v hv
  obtain ⟨x, _, rfl⟩ := List.mem_map.1 hv
  rfl

theorem copy_len {cs : List Value} {c : List UInt8} {m k n p : Nat} (h : Hid (cs = bs ((c.drop (m * k)).take k))) (hp : Hid (p = m * k)) (hl : Hid (c.length = n)) : cs.length = Nat.min (n - p) k := by
  rw [h.out, hp.out, bs_length, List.length_take, List.length_drop, hl.out]
  exact Nat.min_comm _ _

theorem copy_fit {cs : List Value} {k q : Nat} (h : Hid (cs.length = Nat.min q k)) : 0 + cs.length ≤ (List.replicate k (Value.int .u8 0)).length := by
  rw [h.out, List.length_replicate]
  have : Nat.min q k ≤ k := Nat.min_le_right _ _
  omega

theorem copy_src {cs : List Value} {c : List UInt8} {m k p ab ao : Nat} {w : World} (h : Hid (cs = bs ((c.drop (m * k)).take k))) (hp : Hid (p = m * k)) (hl : Lies w (some ⟨ab, ao, none⟩) (bs c)) :
    ∀ j v, cs[j]? = some v → w.cell? ((⟨ab, ao + p, none⟩ : Addr).add j) = some v := by
  intro j v hj
  rw [h.out] at hj
  have hj' : (bs c)[p + j]? = some v := by
    rw [hp.out]
    simp only [bs, List.map_take, List.map_drop, List.getElem?_take, List.getElem?_drop] at hj ⊢
    split at hj
    · exact hj
    · cases hj
  have := hl.at hj'
  simpa [Addr.add_lit, Nat.add_assoc] using this

theorem CutMid.drew {w w3 : World} {g0 g n k nb m : Nat} {c : List UInt8} (h : CutMid w w3 g0 g n k nb c m) : CutMid w w3.drew g0 g n k nb c m :=
  ⟨h.1, h.2.1, h.2.2.1, h.2.2.2.1, h.2.2.2.2.1.drew, h.2.2.2.2.2⟩

theorem rowIs_setRow {w : World} {g n : Nat} {t : TypeId} {old : Array Value} {cs : List Value} {f : Nat → Value} (hg : w.heap[g]? = some (.cells old t (0, 0))) (hn : cs.length = n) (hf : ∀ i (hi : i < cs.length), cs[i] = f i) : (w.setRow g cs.toArray).rowIs g t n f := by
  refine ⟨cs.toArray, setRow_heap w g old cs.toArray t _ hg, by simpa using hn, fun i hi => ?_⟩
  have hi' : i < cs.length := by omega
  simp [hi', hf i hi']

theorem splice_piece {c : List UInt8} {cs : List Value} {m k : Nat} (HCS : Hid (cs = bs ((c.drop (m * k)).take k))) : (splice (List.replicate k (Value.int .u8 0)) 0 cs).length = k ∧ ∀ i (hi : i < (splice (List.replicate k (Value.int .u8 0)) 0 cs).length), (splice (List.replicate k (Value.int .u8 0)) 0 cs)[i] = u8at (piece k m c) i := by
  have hcl : cs.length = min k (c.length - m * k) := by rw [HCS.out, bs_length]; simp
  have hl : (splice (List.replicate k (Value.int .u8 0)) 0 cs).length = k := by
    rw [length_splice _ _ _ (by simp; omega)]; simp
  refine ⟨hl, fun i hi => ?_⟩
  have hik : i < k := by omega
  apply Option.some.inj
  rw [← List.getElem?_eq_getElem hi, u8at, piece_get c hik]
  unfold splice
  rw [List.take_zero, List.nil_append, List.getElem?_append]
  by_cases h : i < cs.length
  · rw [if_pos h, HCS.out]
    have h2 : m * k + i < c.length := by omega
    simp [bs, hik, h2]
  · rw [if_neg h]
    have h2 : c[m * k + i]? = none := List.getElem?_eq_none (by omega)
    rw [h2, List.getElem?_drop, List.getElem?_replicate, if_pos (by omega)]
    rfl

theorem CutMid.next {w w3 : World} {g0 g n k nb m : Nat} {c : List UInt8} {cs : List Value} (h : CutMid w w3 g0 g n k nb c m) (hgg : g0 < g) (hw : w.heap.size ≤ g0) (HL : Hid (c.length = n))
    (HCS : Hid (cs = bs ((c.drop (m * k)).take k))) : CutInv w (w3.setRow (g + 1 + m) (splice (List.replicate k (Value.int .u8 0)) 0 cs).toArray) g0 g n k nb c (m + 1) := by
  obtain ⟨i1, i2, i3, i4, i5, i6⟩ := h
  obtain ⟨s1, s2⟩ := splice_piece HCS
  refine ⟨by rw [setRow_size]; exact i1, i2.of_block (setRow_other _ _ _ _ (by omega)), fun j hj => ?_, ?_, below_setRow i5 (by omega) _⟩
  · by_cases e : j = m
    · subst e
      exact rowIs_setRow i6 s1 s2
    · exact (i3 j (by omega)).of_block (setRow_other _ _ _ _ (by omega))
  · exact ⟨by rw [cell_setRow_other _ _ _ _ (by simp; omega)]; exact i4.1, by rw [cell_setRow_other _ _ _ _ (by simp; omega)]; exact i4.2⟩

def cutBl (g nb k : Nat) (c : List UInt8) : List Blk := (List.range nb).map fun j => ⟨some ⟨g + 1 + j, 0, none⟩, k, piece k j c⟩

theorem cutBl_val (g nb k : Nat) (c : List UInt8) : (cutBl g nb k c).map Blk.val = (List.range nb).map (rowAt g k nb) := by
  unfold cutBl
  rw [List.map_map]
  apply List.map_congr_left
  intro j hj
  have hj : j < nb := by simpa using hj
  simp [Blk.val, rowAt, hj, piece_length]

theorem cutBl_l (g nb k : Nat) (c : List UInt8) : (cutBl g nb k c).map Blk.l = cutL nb k c := by simp [cutBl, cutL]

end Go.Proofs.YtekdigbdfeamkaaGreatDoor

/-
  Rows over two: sums, what they span, rows in order (each has a first block that no other one has), and that what is spanned has one such order alone. Nothing of any program.
-/
namespace Go.Proofs.YtekdigbdfeamkaaGreatDoor
set_option linter.unusedVariables false
set_option linter.unusedSimpArgs false

/-- a row: which blocks are in it, and their sum -/
structure V where
  has : Nat → Bool
  dat : Nat → UInt8

theorem V.ext' {a b : V} (h : ∀ k, a.has k = b.has k) (d : ∀ k, a.dat k = b.dat k) : a = b := by
  cases a; cases b
  congr
  · exact funext h
  · exact funext d

def V.o : V := ⟨fun _ => false, fun _ => 0⟩

/-- both rows' sum -/
def V.add (a b : V) : V := ⟨fun k => a.has k != b.has k, fun k => a.dat k ^^^ b.dat k⟩

theorem V.has_add (a b : V) (k : Nat) : (a.add b).has k = (a.has k != b.has k) := rfl
theorem V.has_o (k : Nat) : V.o.has k = false := rfl

theorem V.add_comm (a b : V) : a.add b = b.add a :=
  V.ext' (fun k => by simp only [V.add]; cases a.has k <;> cases b.has k <;> rfl) (fun k => by simp only [V.add]; exact UInt8.xor_comm _ _)

theorem V.add_assoc (a b c : V) : (a.add b).add c = a.add (b.add c) :=
  V.ext' (fun k => by simp only [V.add]; cases a.has k <;> cases b.has k <;> cases c.has k <;> rfl) (fun k => by simp only [V.add]; exact UInt8.xor_assoc _ _ _)

theorem V.add_self (a : V) : a.add a = V.o :=
  V.ext' (fun k => by simp [V.add, V.o]) (fun k => by simp [V.add, V.o])

theorem V.add_o (a : V) : a.add V.o = a :=
  V.ext' (fun k => by simp [V.add, V.o]) (fun k => by simp [V.add, V.o])

theorem V.o_add (a : V) : V.o.add a = a := by rw [V.add_comm, V.add_o]

theorem V.add_add (a b : V) : (a.add b).add b = a := by rw [V.add_assoc, V.add_self, V.add_o]

theorem V.eq_of_add {a b : V} (h : a.add b = V.o) : a = b := by
  have := V.add_add a b
  rw [h, V.o_add] at this
  exact this.symm

/-- what rows make, added -/
inductive Span (S : List V) : V → Prop
  | o : Span S V.o
  | step {r v : V} : r ∈ S → Span S v → Span S (v.add r)

theorem Span.mem {S : List V} {r : V} (h : r ∈ S) : Span S r := by
  have := Span.step h Span.o
  rwa [V.o_add] at this

theorem Span.add {S : List V} {a b : V} (ha : Span S a) (hb : Span S b) : Span S (a.add b) := by
  induction hb with
  | o => rw [V.add_o]; exact ha
  | step h _ ih => rw [← V.add_assoc]; exact .step h ih

theorem Span.sub {S T : List V} (h : ∀ r ∈ S, Span T r) {v : V} (hv : Span S v) : Span T v := by
  induction hv with
  | o => exact .o
  | step hr _ ih => exact ih.add (h _ hr)

theorem Span.mono {S T : List V} (h : ∀ r ∈ S, r ∈ T) {v : V} (hv : Span S v) : Span T v := hv.sub fun r hr => .mem (h r hr)

/-- where all are nought, so is what they span -/
theorem Span.nought {S : List V} {k : Nat} (h : ∀ r ∈ S, r.has k = false) {v : V} (hv : Span S v) : v.has k = false := by
  induction hv with
  | o => rfl
  | step hr _ ih => rw [V.has_add, ih, h _ hr]; rfl

theorem Span.head {r : V} {S : List V} {v : V} (hv : Span (r :: S) v) : Span S v ∨ Span S (v.add r) := by
  induction hv with
  | o => exact .inl .o
  | @step x u hr _ ih =>
    rcases List.mem_cons.1 hr with rfl | hr
    · rcases ih with ih | ih
      · exact .inr (by rw [V.add_add]; exact ih)
      · exact .inl ih
    · rcases ih with ih | ih
      · exact .inl (.step hr ih)
      · refine .inr ?_
        rw [V.add_assoc, V.add_comm x r, ← V.add_assoc]
        exact .step hr ih

/-- a row's first block -/
def Lead (v : V) (k : Nat) : Prop := v.has k = true ∧ ∀ j, j < k → v.has j = false

theorem Lead.one {v : V} {j k : Nat} (h : Lead v j) (h' : Lead v k) : j = k := by
  rcases Nat.lt_trichotomy j k with hl | rfl | hl
  · have := h'.2 j hl; rw [h.1] at this; cases this
  · rfl
  · have := h.2 k hl; rw [h'.1] at this; cases this

theorem Lead.of_has {v : V} : ∀ {k : Nat}, v.has k = true → ∃ j, j ≤ k ∧ Lead v j := by
  intro k
  induction k using Nat.strongRecOn with
  | _ k ih =>
    intro h
    by_cases hj : ∃ j, j < k ∧ v.has j = true
    · obtain ⟨j, hl, hh⟩ := hj
      obtain ⟨i, hi, hL⟩ := ih j hl hh
      exact ⟨i, by omega, hL⟩
    · refine ⟨k, Nat.le_refl _, h, fun j hl => ?_⟩
      cases hh : v.has j
      · rfl
      · exact absurd ⟨j, hl, hh⟩ hj

/-- one row stands ahead of another one, neither has the other's first block -/
def Ahead (a b : V) : Prop := ∃ j k, Lead a j ∧ Lead b k ∧ j < k ∧ a.has k = false

theorem Ahead.not {a b : V} (h : Ahead a b) (h' : Ahead b a) : False := by
  obtain ⟨j, k, l1, l2, hl, _⟩ := h
  obtain ⟨j', k', l1', l2', hl', _⟩ := h'
  have := l1.one l2'
  have := l2.one l1'
  omega

theorem Ahead.ne {a : V} (h : Ahead a a) : False := h.not h

/-- rows in order -/
structure Sys (A : List V) : Prop where
  lead : ∀ r ∈ A, ∃ k, Lead r k
  pair : A.Pairwise Ahead

theorem Sys.nil : Sys [] := ⟨fun r h => by simp at h, .nil⟩

theorem Sys.tail {a : V} {A : List V} (h : Sys (a :: A)) : Sys A := ⟨fun r hr => h.lead r (List.mem_cons_of_mem _ hr), (List.pairwise_cons.1 h.pair).2⟩

theorem Sys.ahead {a : V} {A : List V} (h : Sys (a :: A)) : ∀ r ∈ A, Ahead a r := (List.pairwise_cons.1 h.pair).1

/-- no other row has a row's first block -/
theorem Sys.apart {A : List V} (h : Sys A) {r s : V} (hr : r ∈ A) (hs : s ∈ A) {k : Nat} (hl : Lead r k) (hk : s.has k = true) : s = r := by
  induction A with
  | nil => simp at hr
  | cons a A ih =>
    rcases List.mem_cons.1 hr with rfl | hr'
    · rcases List.mem_cons.1 hs with rfl | hs'
      · rfl
      · obtain ⟨i, j, l1, l2, hlt, hf⟩ := h.ahead s hs'
        have := l1.one hl
        subst this
        rw [l2.2 _ hlt] at hk
        cases hk
    · rcases List.mem_cons.1 hs with rfl | hs'
      · obtain ⟨i, j, l1, l2, hlt, hf⟩ := h.ahead r hr'
        have := l2.one hl
        subst this
        rw [hf] at hk
        cases hk
      · exact ih h.tail hr' hs'

/-- what is spanned and has no first block of theirs is nought -/
theorem Sys.nought {A : List V} (h : Sys A) {v : V} (hv : Span A v) (hz : ∀ r ∈ A, ∀ k, Lead r k → v.has k = false) : v = V.o := by
  induction A with
  | nil =>
    cases hv with
    | o => rfl
    | step hr _ => simp at hr
  | cons a A ih =>
    rcases hv.head with hv' | hv'
    · exact ih h.tail hv' fun r hr => hz r (List.mem_cons_of_mem _ hr)
    · obtain ⟨k, hk⟩ := h.lead a List.mem_cons_self
      have h1 : (v.add a).has k = false := hv'.nought fun r hr => by
        obtain ⟨i, j, l1, l2, hlt, _⟩ := h.ahead r hr
        have := l1.one hk
        subst this
        exact l2.2 _ hlt
      have h2 := hz a List.mem_cons_self k hk
      rw [V.has_add, h2, hk.1] at h1
      cases h1

/-- the first block of what is spanned is one of theirs -/
theorem Sys.first {A : List V} (h : Sys A) {v : V} (hv : Span A v) {k : Nat} (hk : Lead v k) : ∃ r ∈ A, Lead r k := by
  induction A with
  | nil =>
    cases hv with
    | o => cases hk.1
    | step hr _ => simp at hr
  | cons a A ih =>
    rcases hv.head with hv' | hv'
    · obtain ⟨r, hr, hl⟩ := ih h.tail hv'
      exact ⟨r, List.mem_cons_of_mem _ hr, hl⟩
    · obtain ⟨j, hj⟩ := h.lead a List.mem_cons_self
      have hn : ∀ i, i ≤ j → (v.add a).has i = false := fun i hi => hv'.nought fun r hr => by
        obtain ⟨i', j', l1, l2, hlt, _⟩ := h.ahead r hr
        have := l1.one hj
        exact l2.2 _ (by omega)
      have he : ∀ i, i ≤ j → v.has i = a.has i := fun i hi => by
        have := hn i hi
        rw [V.has_add] at this
        simpa using this
      have hvj : Lead v j := ⟨by rw [he j (Nat.le_refl _)]; exact hj.1, fun i hi => by rw [he i (by omega)]; exact hj.2 i hi⟩
      have := hvj.one hk
      subst this
      exact ⟨a, List.mem_cons_self, hj⟩

theorem Sys.sub {A B : List V} (hA : Sys A) (hB : Sys B) (h : ∀ v, Span A v ↔ Span B v) : ∀ a ∈ A, a ∈ B := by
  intro a ha
  obtain ⟨k, hk⟩ := hA.lead a ha
  obtain ⟨b, hb, hbk⟩ := hB.first ((h a).1 (.mem ha)) hk
  have hz : a.add b = V.o := by
    refine hB.nought (((h a).1 (.mem ha)).add (.mem hb)) fun r hr p hp => ?_
    rw [V.has_add]
    by_cases e : p = k
    · subst e; rw [hk.1, hbk.1]; rfl
    · have h1 : b.has p = false := by
        cases hh : b.has p
        · rfl
        · have := hB.apart hr hb hp hh
          subst this
          exact absurd (hp.one hbk) e
      have h2 : a.has p = false := by
        obtain ⟨a', ha', hl'⟩ := hA.first ((h r).2 (.mem hr)) hp
        cases hh : a.has p
        · rfl
        · have := hA.apart ha' ha hl' hh
          subst this
          exact absurd (hl'.one hk) e
      rw [h1, h2]; rfl
  rw [V.eq_of_add hz]
  exact hb

/-- there is one order alone -/
theorem Sys.same {A B : List V} (hA : Sys A) (hB : Sys B) (h1 : ∀ a ∈ A, a ∈ B) (h2 : ∀ b ∈ B, b ∈ A) : A = B := by
  induction A generalizing B with
  | nil =>
    cases B with
    | nil => rfl
    | cons b B => exact absurd (h2 b List.mem_cons_self) (by simp)
  | cons a A ih =>
    cases B with
    | nil => exact absurd (h1 a List.mem_cons_self) (by simp)
    | cons b B =>
      have e : a = b := by
        rcases List.mem_cons.1 (h1 a List.mem_cons_self) with e | h
        · exact e
        · rcases List.mem_cons.1 (h2 b List.mem_cons_self) with e | h'
          · exact e.symm
          · exact ((hB.ahead a h).not (hA.ahead b h')).elim
      subst e
      congr 1
      refine ih hA.tail hB.tail (fun x hx => ?_) (fun x hx => ?_)
      · rcases List.mem_cons.1 (h1 x (List.mem_cons_of_mem _ hx)) with e | h
        · subst e; exact (hA.ahead x hx).ne.elim
        · exact h
      · rcases List.mem_cons.1 (h2 x (List.mem_cons_of_mem _ hx)) with e | h
        · subst e; exact (hB.ahead x hx).ne.elim
        · exact h

theorem Sys.uniq {A B : List V} (hA : Sys A) (hB : Sys B) (h : ∀ v, Span A v ↔ Span B v) : A = B :=
  hA.same hB (hA.sub hB h) (hB.sub hA fun v => (h v).symm)

end Go.Proofs.YtekdigbdfeamkaaGreatDoor
