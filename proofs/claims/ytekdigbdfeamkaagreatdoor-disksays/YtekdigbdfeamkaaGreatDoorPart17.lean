import Derived.Test.YtekdigbdfeamkaaGreatDoorPart16
import Derived.Lib.ConvBytes
import Derived.Lib.SmallJoins
import Derived.Deep.RegionLaw
/-
  Chapter 8: package disk's Put.
-/
namespace Go.Proofs.YtekdigbdfeamkaaGreatDoor
open Go.RowKit
set_option linter.unusedVariables false
set_option linter.unusedSimpArgs false

/-- what a call leaves that answers a disk -/
def DiskR (B : Nat) (z : Int) (s v : List UInt8) (e : Ending) (w' : World) : Prop :=
  ∃ (sa : Option Addr) (sc : Nat) (wa : Option Addr) (wc : Nat), e = .returned (.tuple #[dkV sa s.length sc wa v.length wc, .int .i64 z]) ∧ s.length ≤ sc ∧ v.length ≤ wc ∧ Lies w' sa (bs s) ∧ Lies w' wa (bs v) ∧ (∀ b o, sa = some ⟨b, o, none⟩ → B ≤ b) ∧ ∀ b o, wa = some ⟨b, o, none⟩ → B ≤ b

theorem DiskR.none {B : Nat} {z : Int} {e : Ending} {w' : World} (h : e = .returned (.tuple #[dkV none 0 0 none 0 0, .int .i64 z])) : DiskR B z [] [] e w' :=
  ⟨Option.none, 0, Option.none, 0, h, Nat.le_refl _, Nat.le_refl _, Lies.nil _ _, Lies.nil _ _, (fun b o e => by cases e), (fun b o e => by cases e)⟩

theorem box2 (W : World) (g : Nat) (T : TypeId) (a0 a1 v0 v1 : Value) (hb : W.heap[g]? = some (.cells #[a0, a1] T (0, 0))) :
    ∃ W9, ((W.setCell ⟨g, 0, none⟩ v0).setCell ⟨g, 1, none⟩ v1) = W9 ∧ W9.heap[g]? = some (.cells #[v0, v1] T (0, 0)) ∧ (∀ k, k ≠ g → W9.heap[k]? = W.heap[k]?) ∧ (∀ B w, B ≤ g → Below B w W → Below B w W9) := by
  refine ⟨_, rfl, ?_, ?_, ?_⟩
  · have h := setCell_blk (setCell_blk hb 0 v0) 1 v1
    simpa using h
  · intro k hk
    rw [setCell_far _ _ hk, setCell_far _ _ hk]
  · intro B w hB h
    exact ((h.setCell (p := ⟨g, 0, none⟩) hB _).setCell (p := ⟨g, 1, none⟩) hB _)

theorem catB (a b : List UInt8) : (⟨a.toArray⟩ ++ ⟨b.toArray⟩ : ByteArray) = ⟨(a ++ b).toArray⟩ := by
  apply ByteArray.ext
  simp

theorem cellFar2 {W : World} {g k o : Nat} {v0 v1 u : Value} (h : W.cell? ⟨k, o, none⟩ = some u) (hne : k ≠ g) : ((W.setCell ⟨g, 0, none⟩ v0).setCell ⟨g, 1, none⟩ v1).cell? ⟨k, o, none⟩ = some u := by
  rw [World.cell?_setCell_other _ _ _ _ (by intro e; injection e; omega), World.cell?_setCell_other _ _ _ _ (by intro e; injection e; omega)]
  exact h

/-- a text turned into bytes -/
theorem lies_bytesWorld (w : World) (l : List UInt8) : Lies (Lib.bytesWorld w 5 ⟨l.toArray⟩) (some ⟨w.heap.size, 0, none⟩) (bs l) := by
  refine Lies.mk fun k hk => ?_
  rw [bs_length] at hk
  rw [Nat.zero_add, Lib.bytesWorld_cell w _ _ k (by rw [show (⟨l.toArray⟩ : ByteArray).size = l.length from by simp [ByteArray.size]]; exact hk)]
  simp [bs, hk]

/-- a call of one argument, as one step of a region that draws its order -/
theorem step_call1 {f : FuncId} {ops : Array Oper} {o : Oper} {a : Act} {w : World} {K : Act → World → Prop} {Q : Exit → Act → World → Prop} {E : Prop} {R : Value → World → Prop} (eg : ∀ args w, (callFunc f args).run Tryz.prog w = .ok (.enter f args) w) (hgd : o.guard = none) (arg : Operand) (ty : TypeId)
    (ho : o.op = .call { callee := .value (.func f), args := #[arg], argTypes := #[ty] }) (v : Value) (hv : a.eval arg = v) (hc : Calls Tryz.prog f #[v] w fun e w' => ∃ x, e = .returned x ∧ R x w') (h : ∀ x w', R x w' → K (a.put o.dst x) w') :
    if Region.wanted o (yielded ops a.tmps) = true then Oper.wp Tryz.prog o a w K Q else E := by
  rw [if_pos (by simp [Region.wanted, hgd])]
  have hrun : (execOp a.eval o).run Tryz.prog w = .ok (.enter f #[v]) w := by
    have hf : a.eval (.func f) = .func (.func f) #[] #[] := rfl
    simp [execOp, ho, resolve, hf, eg, go_sem, invoke]
    cases arg <;> simpa [Act.eval] using hv
  unfold Oper.wp
  rw [hrun, Oper.upon_enter]
  refine hc.mono ?_
  rintro e w' ⟨x, rfl, hr⟩
  exact h x w' hr

theorem step_call2 {f : FuncId} {ops : Array Oper} {o : Oper} {a : Act} {w : World} {K : Act → World → Prop} {Q : Exit → Act → World → Prop} {E : Prop} {R : Value → World → Prop} (eg : ∀ args w, (callFunc f args).run Tryz.prog w = .ok (.enter f args) w) (hgd : o.guard = none) (arg arg2 : Operand) (ty ty2 : TypeId)
    (ho : o.op = .call { callee := .value (.func f), args := #[arg, arg2], argTypes := #[ty, ty2] }) (v v2 : Value) (hv : a.eval arg = v) (hv2 : a.eval arg2 = v2) (hc : Calls Tryz.prog f #[v, v2] w fun e w' => ∃ x, e = .returned x ∧ R x w') (h : ∀ x w', R x w' → K (a.put o.dst x) w') :
    if Region.wanted o (yielded ops a.tmps) = true then Oper.wp Tryz.prog o a w K Q else E := by
  rw [if_pos (by simp [Region.wanted, hgd])]
  have hrun : (execOp a.eval o).run Tryz.prog w = .ok (.enter f #[v, v2]) w := by
    have hf : a.eval (.func f) = .func (.func f) #[] #[] := rfl
    simp [execOp, ho, resolve, hf, eg, go_sem, invoke]
    refine ⟨?_, ?_⟩
    · cases arg <;> simpa [Act.eval] using hv
    · cases arg2 <;> simpa [Act.eval] using hv2
  unfold Oper.wp
  rw [hrun, Oper.upon_enter]
  refine hc.mono ?_
  rintro e w' ⟨x, rfl, hr⟩
  exact h x w' hr

theorem entersClone : ∀ args w, (callFunc 20 args).run Tryz.prog w = .ok (.enter 20 args) w := enters_of Tryz.func20 (by kernel_rfl) rfl
theorem entersJoined : ∀ args w, (callFunc 21 args).run Tryz.prog w = .ok (.enter 21 args) w := enters_of Tryz.func21 (by kernel_rfl) rfl

/-- a slice of bytes in memory -/
def IsBytes (B m : Nat) (l : List UInt8) (x : Value) (w : World) : Prop := ∃ (p : Option Addr) (c : Nat), x = .slice p m c ∧ m ≤ c ∧ Lies w p (bs l) ∧ ∀ b o, p = some ⟨b, o, none⟩ → B ≤ b

/-- what Put says -/
def putCode (s v : List UInt8) (r : Rc) : Int :=
  if dkCode s v = 0 then if r.code = 0 then if s.length + v.length + (r.text.length + 1) ≤ 60000 then 0 else 2 else r.code else dkCode s v

/-- what Put leaves -/
def PutR (B : Nat) (s v : List UInt8) (r : Rc) (e : Ending) (w' : World) : Prop :=
  DiskR B (putCode s v r) (if putCode s v r = 0 then s else []) (if putCode s v r = 0 then v ++ (r.text ++ [10]) else []) e w'

theorem PutR.bad {B : Nat} {s v : List UInt8} {r : Rc} {z : Int} {e : Ending} {w' : World} (h : putCode s v r = z) (hz : z ≠ 0) (he : e = .returned (.tuple #[dkV none 0 0 none 0 0, .int .i64 z])) : PutR B s v r e w' := by
  unfold PutR
  rw [h, if_neg hz, if_neg hz]
  exact DiskR.none he

theorem PutR.good {B : Nat} {s v : List UInt8} {r : Rc} {e : Ending} {w' : World} (h : putCode s v r = 0) (he : DiskR B 0 s (v ++ (r.text ++ [10])) e w') : PutR B s v r e w' := by
  unfold PutR
  rw [h, if_pos rfl, if_pos rfl]
  exact he

set_option maxHeartbeats 4000000 in
set_option maxRecDepth 8000 in
theorem putD_any (sa : Option Addr) (sc : Nat) (wa : Option Addr) (wc : Nat) (s v : List UInt8) (r : Rc) (da : Option Addr) (dc : Nat) (ca : Option Addr) (cc : Nat) (w : World) (ls : s.length ≤ 9223372036854775807) (lv : v.length ≤ 9223372036854775807) (hsc : s.length ≤ sc) (h1 : Lies w sa (bs s)) (h2 : Lies w wa (bs v))
    (hi : r.ints) (ld : r.d.length ≤ maxLen) (hd : Lies w da (bs r.d)) (hc : Lies w ca (bs r.c)) (hL : LaidN w) :
    Calls Tryz.prog 4 #[dkV sa s.length sc wa v.length wc, rcV r da dc ca cc] w fun e w' => PutR w.heap.size s v r e w' ∧ Below w.heap.size w w' := by
  obtain ⟨W, hW⟩ : ∃ W, ((w.alloc (.cells #[.slice sa s.length sc, .slice wa v.length wc] 24)).alloc (.cells #[.int .i64 r.k, .int .i64 r.p, .int .i64 r.n, .int .i64 r.y, .int .i64 r.h.F, .int .i64 r.h.Q, .int .i64 r.h.T, .int .i64 r.h.L, .int .i64 r.h.B, .int .i64 r.h.K, .int .i64 r.id, .slice da r.d.length dc, .slice ca r.c.length cc] 33)).alloc (.cells #[.slice none 0 0, .slice none 0 0] 24) = W := ⟨_, rfl⟩
  have hBW : Below w.heap.size w W := by rw [← hW]; exact (((Below.refl _ _).alloc (Nat.le_refl _) _).alloc (by simp) _).alloc (by simp; omega) _
  have hb1 : W.heap[w.heap.size]? = some (.cells #[.slice sa s.length sc, .slice wa v.length wc] 24 (0, 0)) := by rw [← hW, heap_alloc_eq, if_neg (by simp; omega), heap_alloc_eq, if_neg (by simp), heap_alloc_eq, if_pos rfl]
  have hb2 : W.heap[w.heap.size + 1]? = some (.cells #[.int .i64 r.k, .int .i64 r.p, .int .i64 r.n, .int .i64 r.y, .int .i64 r.h.F, .int .i64 r.h.Q, .int .i64 r.h.T, .int .i64 r.h.L, .int .i64 r.h.B, .int .i64 r.h.K, .int .i64 r.id, .slice da r.d.length dc, .slice ca r.c.length cc] 33 (0, 0)) := by rw [← hW, heap_alloc_eq, if_neg (by simp), heap_alloc_eq, if_pos (by simp)]
  have hb3 : W.heap[w.heap.size + 1 + 1]? = some (.cells #[.slice none 0 0, .slice none 0 0] 24 (0, 0)) := by rw [← hW, heap_alloc_eq, if_pos (by simp)]
  replace h1 := Lies.below hBW h1 (Nat.le_refl _)
  replace h2 := Lies.below hBW h2 (Nat.le_refl _)
  replace hd := Lies.below hBW hd (Nat.le_refl _)
  replace hc := Lies.below hBW hc (Nat.le_refl _)
  have hLW := hL.below hBW
  have hC := checkD_any sa sc wa wc s v W ls lv hsc h1 hLW
  have hP : ∀ w1, Below W.heap.size W w1 → Calls Tryz.prog 18 #[rcV r da dc ca cc] w1 fun e w' => e = .returned (.tuple #[.string ⟨r.printed.toArray⟩, .int .i64 r.code]) ∧ Below w1.heap.size w1 w' := fun w1 hb => print_any r da dc ca cc w1 hi ld (hd.below hb (Nat.le_refl _)) (hc.below hb (Nat.le_refl _)) (hLW.below hb)
  simp only [rcV, dkV] at hC hP ⊢
  clear hL hd hc
  obtain ⟨c0, c1, f0, f1⟩ := cellsD hb1
  go_enter Tryz.func4, Tryz.ntmps4
  go_wp2_with fail
  refine hC.mono ?_
  rintro e W1 ⟨rfl, hB1⟩
  clear hC hW c0 c1 f0 f1
  have hF1 := hBW.trans (hB1.mono hBW.size)
  by_cases hz : dkCode s v = 0
  case neg =>
    have bz : (dkCode s v != 0) = true := by simpa using hz
    have HP : Shut (putCode s v r = dkCode s v ∧ dkCode s v ≠ 0) := ⟨by rw [putCode, if_neg hz], hz⟩
    have hk3 := blkB hb3 hB1
    clear hz
    generalize dkCode s v = z at bz HP ⊢
    obtain ⟨c0, c1, f0, f1⟩ := cellsD hk3
    go_wp2
    obtain ⟨W9, hW9, hb9, hk9, hB9⟩ := box2 W1 (w.heap.size + 1 + 1) 24 _ _ (.slice none 0 0) (.slice none 0 0) hk3
    rw [hW9]
    have hF9 := hB9 _ _ (by omega) hF1
    clear hW9 hB9 c0 c1 f0 f1
    obtain ⟨c0, c1, f0, f1⟩ := cellsD hb9
    refine bodyPost_ret (v := .tuple #[dkV none 0 0 none 0 0, .int .i64 z]) (by simp [results, Tryz.results4, go_sem, dkV, c0, c1]) rfl ?_
    exact ⟨PutR.bad HP.out.1 HP.out.2 rfl, hF9⟩
  rw [hz]
  have hs60 : s.length + v.length ≤ 60000 := by
    rw [dkCode] at hz
    split at hz
    · cases hz
    · omega
  have HZ := Shut.mk hz
  clear hz
  have hk2 := blkB hb2 hB1
  have q0 : W1.cell? ⟨w.heap.size + 1, 0, none⟩ = some (.int .i64 r.k) := cellB hk2 0 _ rfl
  have q1 : W1.cell? ⟨w.heap.size + 1, 1, none⟩ = some (.int .i64 r.p) := cellB hk2 1 _ rfl
  have q2 : W1.cell? ⟨w.heap.size + 1, 2, none⟩ = some (.int .i64 r.n) := cellB hk2 2 _ rfl
  have q3 : W1.cell? ⟨w.heap.size + 1, 3, none⟩ = some (.int .i64 r.y) := cellB hk2 3 _ rfl
  have q4 : W1.cell? ⟨w.heap.size + 1, 4, none⟩ = some (.int .i64 r.h.F) := cellB hk2 4 _ rfl
  have q5 : W1.cell? ⟨w.heap.size + 1, 5, none⟩ = some (.int .i64 r.h.Q) := cellB hk2 5 _ rfl
  have q6 : W1.cell? ⟨w.heap.size + 1, 6, none⟩ = some (.int .i64 r.h.T) := cellB hk2 6 _ rfl
  have q7 : W1.cell? ⟨w.heap.size + 1, 7, none⟩ = some (.int .i64 r.h.L) := cellB hk2 7 _ rfl
  have q8 : W1.cell? ⟨w.heap.size + 1, 8, none⟩ = some (.int .i64 r.h.B) := cellB hk2 8 _ rfl
  have q9 : W1.cell? ⟨w.heap.size + 1, 9, none⟩ = some (.int .i64 r.h.K) := cellB hk2 9 _ rfl
  have q10 : W1.cell? ⟨w.heap.size + 1, 10, none⟩ = some (.int .i64 r.id) := cellB hk2 10 _ rfl
  have q11 : W1.cell? ⟨w.heap.size + 1, 11, none⟩ = some (.slice da r.d.length dc) := cellB hk2 11 _ rfl
  have q12 : W1.cell? ⟨w.heap.size + 1, 12, none⟩ = some (.slice ca r.c.length cc) := cellB hk2 12 _ rfl
  go_wp2_with fail
  refine (hP W1 hB1).mono ?_
  rintro e W2 ⟨rfl, hb⟩
  have hB2 := hB1.trans (hb.mono hB1.size)
  have hF2 := hBW.trans (hB2.mono hBW.size)
  clear hP hb hk2 hF1 hB1 q0 q1 q2 q3 q4 q5 q6 q7 q8 q9 q10 q11 q12
  by_cases hr : r.code = 0
  case neg =>
    have br : (r.code != 0) = true := by simpa using hr
    have HP : Shut (putCode s v r = r.code ∧ r.code ≠ 0) := ⟨by rw [putCode, if_pos HZ.out, if_neg hr], hr⟩
    have hk3 := blkB hb3 hB2
    clear hr
    generalize r.code = z at br HP ⊢
    generalize (⟨r.printed.toArray⟩ : ByteArray) = T
    obtain ⟨c0, c1, f0, f1⟩ := cellsD hk3
    go_wp2
    obtain ⟨W9, hW9, hb9, hk9, hB9⟩ := box2 W2 (w.heap.size + 1 + 1) 24 _ _ (.slice none 0 0) (.slice none 0 0) hk3
    rw [hW9]
    have hF9 := hB9 _ _ (by omega) hF2
    clear hW9 hB9 c0 c1 f0 f1
    obtain ⟨c0, c1, f0, f1⟩ := cellsD hb9
    refine bodyPost_ret (v := .tuple #[dkV none 0 0 none 0 0, .int .i64 z]) (by simp [results, Tryz.results4, go_sem, dkV, c0, c1]) rfl ?_
    exact ⟨PutR.bad HP.out.1 HP.out.2 rfl, hF9⟩
  have hpr : r.printed = r.text := if_pos hr
  have hts := text_short hi hr
  have HR := Shut.mk hr
  rw [hr, hpr]
  clear hr hpr
  obtain ⟨n, hn⟩ : ∃ n, r.text.length + 1 = n := ⟨_, rfl⟩
  have HN := Shut.mk hn
  have hcat : (⟨r.text.toArray⟩ ++ ⟨#[10]⟩ : ByteArray) = ⟨(r.text ++ [10]).toArray⟩ := catB r.text [10]
  have hlen : (⟨(r.text ++ [10]).toArray⟩ : ByteArray).size = n := by simp [ByteArray.size]; omega
  have s1 : ¬ 9223372036854775807 < r.text.length + 1 := by omega
  obtain ⟨LN, hLN⟩ : ∃ LN : ByteArray, LN = ⟨(r.text ++ [10]).toArray⟩ := ⟨_, rfl⟩
  rw [← hLN] at hcat hlen
  have HLN := Shut.mk hLN
  clear hLN
  have hRm := hasRoom_any sa s.length sc wa v.length wc n W2 ls lv (by omega)
  simp only [dkV] at hRm
  have hk1 := blkB hb1 hB2
  obtain ⟨c0, c1, f0, f1⟩ := cellsD hk1
  go_wp2_with fail
  refine hRm.mono ?_
  rintro e W3 ⟨rfl, hb⟩
  have hB3 := hB2.trans (hb.mono hB2.size)
  have hF3 := hBW.trans (hB3.mono hBW.size)
  clear hRm hb hk1 hF2 hB2 c0 c1 f0 f1 hn
  have hk3 := blkB hb3 hB3
  by_cases hroom : s.length + v.length + n ≤ 60000
  case neg =>
    have HP : Shut (putCode s v r = 2) := ⟨by rw [putCode, if_pos HZ.out, if_pos HR.out, if_neg (by rw [HN.out]; exact hroom)]⟩
    rw [decide_eq_false hroom]
    clear hroom hs60 hts
    obtain ⟨c0, c1, f0, f1⟩ := cellsD hk3
    go_wp2
    obtain ⟨W9, hW9, hb9, hk9, hB9⟩ := box2 W3 (w.heap.size + 1 + 1) 24 _ _ (.slice none 0 0) (.slice none 0 0) hk3
    rw [hW9]
    have hF9 := hB9 _ _ (by omega) hF3
    clear hW9 hB9 c0 c1 f0 f1
    obtain ⟨c0, c1, f0, f1⟩ := cellsD hb9
    refine bodyPost_ret (v := .tuple #[dkV none 0 0 none 0 0, .int .i64 2]) (by simp [results, Tryz.results4, go_sem, dkV, c0, c1]) rfl ?_
    exact ⟨PutR.bad HP.out (by decide) rfl, hF9⟩
  have HP : Shut (putCode s v r = 0) := ⟨by rw [putCode, if_pos HZ.out, if_pos HR.out, if_pos (by rw [HN.out]; exact hroom)]⟩
  rw [decide_eq_true hroom]
  have hk1 := blkB hb1 hB3
  have hs3 := h1.below hB3 (Nat.le_refl _)
  have hv3 := h2.below hB3 (Nat.le_refl _)
  have hconv : ∀ W', (convert 9 22 (.string LN)).run Tryz.prog W' = .ok (.slice (some ⟨W'.heap.size, 0, none⟩) LN.size (grownCap W' LN.size 0 5)) (Lib.bytesWorld W' 5 LN) := fun W' => Lib.run_convert_string_bytes W' 9 22 5 LN Tryz.underlying9 Tryz.underlying22 Tryz.underlying5
  rw [hlen] at hconv
  obtain ⟨vn, hvn⟩ : ∃ vn, (v ++ (r.text ++ [10])).length = vn := ⟨_, rfl⟩
  have HVN := Shut.mk hvn
  clear hvn
  have hCl : ∀ W', Below W3.heap.size W3 W' → Calls Tryz.prog 20 #[.slice sa s.length sc] W' fun e w' => ∃ x, e = .returned x ∧ (IsBytes W3.heap.size s.length s x w' ∧ Below W'.heap.size W' w' ∧ Below W3.heap.size W3 w') := fun W' hb => (cloneD_any sa sc s W' (by omega) (hs3.below hb (Nat.le_refl _))).mono fun _ _ ⟨⟨p', c', e1, e2, e3, e9⟩, h⟩ => ⟨_, e1, ⟨p', c', rfl, e2, e3, fun b o e => Nat.le_trans hb.size (e9 b o e)⟩, h, hb.trans (h.mono hb.size)⟩
  have hJo : ∀ (W' : World) (g c : Nat), Below W3.heap.size W3 W' → Lies W' (some ⟨g, 0, none⟩) (bs (r.text ++ [10])) → Calls Tryz.prog 21 #[.slice wa v.length wc, .slice (some ⟨g, 0, none⟩) n c] W' fun e w' => ∃ x, e = .returned x ∧ (IsBytes W3.heap.size vn (v ++ (r.text ++ [10])) x w' ∧ Below W'.heap.size W' w' ∧ Below W3.heap.size W3 w') := by
    intro W' g c hb hl
    have e1 : (r.text ++ [10]).length = n := by rw [List.length_append, ← HN.out]; rfl
    have h := joinedD_any wa wc v (some ⟨g, 0, none⟩) c (r.text ++ [10]) W' (by omega) (by omega) (hv3.below hb (Nat.le_refl _)) hl
    rw [e1] at h
    refine h.mono ?_
    rintro e w' ⟨⟨p', c', e2, e3, e4, e9⟩, h⟩
    have e5 : vn = v.length + n := by rw [← HVN.out, List.length_append, e1]
    exact ⟨_, e2, ⟨p', c', by rw [e5], by rw [e5]; exact e3, e4, fun b o e => Nat.le_trans hb.size (e9 b o e)⟩, h, hb.trans (h.mono hb.size)⟩
  have hbw : ∀ W', Below W'.heap.size W' (Lib.bytesWorld W' 5 LN) := fun W' => Joins.below_bytesWorld _ W' _ LN (Nat.le_refl _)
  have hlw : ∀ W', Lies (Lib.bytesWorld W' 5 LN) (some ⟨W'.heap.size, 0, none⟩) (bs (r.text ++ [10])) := fun W' => by rw [HLN.out]; exact lies_bytesWorld W' _
  have HR4 : ∀ W', Below W3.heap.size W3 W' → W'.cell? ⟨w.heap.size, 0, none⟩ = some (.slice sa s.length sc) ∧ W'.cell? ⟨w.heap.size, 1, none⟩ = some (.slice wa v.length wc) ∧ W'.cell? ⟨w.heap.size + 1 + 1, 0, none⟩ = some (.slice none 0 0) ∧ W'.cell? ⟨w.heap.size + 1 + 1, 1, none⟩ = some (.slice none 0 0) ∧ W'.frozen? ⟨w.heap.size + 1 + 1, 0, none⟩ = false ∧ W'.frozen? ⟨w.heap.size + 1 + 1, 1, none⟩ = false := fun W' hb => by
    obtain ⟨a1, a2, _, _⟩ := cellsD (blkB hk1 hb)
    obtain ⟨a3, a4, a5, a6⟩ := cellsD (blkB hk3 hb)
    exact ⟨a1, a2, a3, a4, a5, a6⟩
  have B0 : Below W3.heap.size W3 W3.drew := (Below.refl _ _).drew
  have B1 : Below W3.heap.size W3 (Lib.bytesWorld W3.drew 5 LN) := B0.trans (hbw W3.drew)
  have L1 : Lies (Lib.bytesWorld W3.drew 5 LN) (some ⟨W3.heap.size, 0, none⟩) (bs (r.text ++ [10])) := hlw W3.drew
  have hsW : W3.drew.heap.size = W3.heap.size := rfl
  clear hroom hs60 hts hB3 h1 h2 hs3 hv3 hcat s1
  go_upto_region 10 with fail
  obtain ⟨c0, c1, d0, d1, g0, g1⟩ := HR4 _ B0
  obtain ⟨k0, k1, _, _, _, _⟩ := HR4 _ B1
  have eg1 := entersClone
  have eg2 := entersJoined
  go_region_law (first
    | (refine step_call1 entersClone rfl (.tmp 34) 22 rfl (.slice sa s.length sc) (by simp [Act.eval, Act.put]) (hCl _ (by with_reducible assumption)) ?_; rintro _ wk ⟨⟨pk, ck, rfl, hck, hlk, hfk⟩, hbk, B2⟩; have B3 : Below W3.heap.size W3 (Lib.bytesWorld wk 5 LN) := B2.trans ((hbw wk).mono B2.size); have L2 := hlw wk; obtain ⟨x0, x1, _, _, _, _⟩ := HR4 _ B2; obtain ⟨x2, x3, _, _, _, _⟩ := HR4 _ B3)
    | (refine step_call2 entersJoined rfl (.tmp 37) (.tmp 39) 22 22 rfl _ _ rfl rfl (hJo _ _ _ B3 L2) ?_; rintro _ wj ⟨hj, hbj, B5⟩; have B4 : Below wk.heap.size wk wj := (hbw wk).trans (hbj.mono (hbw wk).size); obtain ⟨pj, cj, rfl, hcj, hlj, hfj⟩ := hj; obtain ⟨y0, y1, y2, y3, y4, y5⟩ := HR4 _ B5)
    | (refine step_call2 entersJoined rfl (.tmp 37) (.tmp 39) 22 22 rfl _ _ rfl rfl (hJo _ _ _ B2 (L1.below hbk (Nat.le_refl _))) ?_; rintro _ wj ⟨hj, hbj, B5⟩; have B4 : Below wk.heap.size wk wj := hbj; obtain ⟨pj, cj, rfl, hcj, hlj, hfj⟩ := hj; obtain ⟨y0, y1, y2, y3, y4, y5⟩ := HR4 _ B5))
  all_goals
    have hk5 := blkB hk3 B5
    have hlt : w.heap.size + 1 + 1 < W3.heap.size := (Array.getElem?_eq_some_iff.1 hk3).1
    have hlk5 := hlk.below B4 (Nat.le_refl _)
    have hF5 := hF3.trans (B5.mono hF3.size)
    clear hCl hJo hconv hbw hlw HR4 B0 B1 B2 B3 B4 B5 L1 L2 hbk hbj x0 x1 x2 x3 y0 y1 y2 y3 y4 y5 k0 k1 c0 c1 d0 d1 g0 g1 hlk eg1 eg2
    go_wp2
    obtain ⟨W9, hW9, hb9, hk9, hB9⟩ := box2 wj (w.heap.size + 1 + 1) 24 _ _ (.slice pk s.length ck) (.slice pj vn cj) hk5
    rw [hW9]
    have hF9 := hB9 _ _ (by omega) hF5
    clear hW9 hB9
    obtain ⟨c0, c1, f0, f1⟩ := cellsD hb9
    refine bodyPost_ret (v := .tuple #[dkV pk s.length ck pj vn cj, .int .i64 0]) (by simp [results, Tryz.results4, go_sem, dkV, c0, c1]) rfl ?_
    exact ⟨PutR.good HP.out ⟨pk, ck, pj, cj, by rw [HVN.out], hck, by rw [HVN.out]; exact hcj, liesFar hlk5 hk9 (fun b o e => by have := hfk b o e; omega), liesFar hlj hk9 (fun b o e => by have := hfj b o e; omega), fun b o e => by have := hfk b o e; omega, fun b o e => by have := hfj b o e; omega⟩, hF9⟩

end Go.Proofs.YtekdigbdfeamkaaGreatDoor

/-
  Chapter 8: package disk's Sync and Crash.
-/
namespace Go.Proofs.YtekdigbdfeamkaaGreatDoor
open Go.RowKit
set_option linter.unusedVariables false
set_option linter.unusedSimpArgs false

/-- what Sync says -/
def syncCode (s v : List UInt8) : Int := if dkCode s v = 0 then dkCode (s ++ v) [] else dkCode s v

/-- what Sync leaves -/
def SyncR (B : Nat) (s v : List UInt8) (e : Ending) (w' : World) : Prop := DiskR B (syncCode s v) (if syncCode s v = 0 then s ++ v else []) [] e w'

theorem SyncR.bad {B : Nat} {s v : List UInt8} {z : Int} {e : Ending} {w' : World} (h : syncCode s v = z) (hz : z ≠ 0) (he : e = .returned (.tuple #[dkV none 0 0 none 0 0, .int .i64 z])) : SyncR B s v e w' := by
  unfold SyncR
  rw [h, if_neg hz]
  exact DiskR.none he

theorem SyncR.good {B : Nat} {s v : List UInt8} {e : Ending} {w' : World} (h : syncCode s v = 0) (he : DiskR B 0 (s ++ v) [] e w') : SyncR B s v e w' := by
  unfold SyncR
  rw [h, if_pos rfl]
  exact he

set_option maxHeartbeats 4000000 in
set_option maxRecDepth 8000 in
theorem syncD_any (sa : Option Addr) (sc : Nat) (wa : Option Addr) (wc : Nat) (s v : List UInt8) (w : World) (ls : s.length ≤ 9223372036854775807) (lv : v.length ≤ 9223372036854775807) (hsc : s.length ≤ sc) (h1 : Lies w sa (bs s)) (h2 : Lies w wa (bs v)) (hL : LaidN w) :
    Calls Tryz.prog 5 #[dkV sa s.length sc wa v.length wc] w fun e w' => SyncR w.heap.size s v e w' ∧ Below w.heap.size w w' := by
  obtain ⟨W, hW⟩ : ∃ W, (w.alloc (.cells #[.slice sa s.length sc, .slice wa v.length wc] 24)).alloc (.cells #[.slice none 0 0, .slice none 0 0] 24) = W := ⟨_, rfl⟩
  have hBW : Below w.heap.size w W := by rw [← hW]; exact ((Below.refl _ _).alloc (Nat.le_refl _) _).alloc (by simp) _
  have hb1 : W.heap[w.heap.size]? = some (.cells #[.slice sa s.length sc, .slice wa v.length wc] 24 (0, 0)) := by rw [← hW, heap_alloc_eq, if_neg (by simp), heap_alloc_eq, if_pos rfl]
  have hb3 : W.heap[w.heap.size + 1]? = some (.cells #[.slice none 0 0, .slice none 0 0] 24 (0, 0)) := by rw [← hW, heap_alloc_eq, if_pos (by simp)]
  replace h1 := Lies.below hBW h1 (Nat.le_refl _)
  replace h2 := Lies.below hBW h2 (Nat.le_refl _)
  have hLW := hL.below hBW
  have hC := checkD_any sa sc wa wc s v W ls lv hsc h1 hLW
  simp only [dkV] at hC ⊢
  clear hL
  obtain ⟨c0, c1, f0, f1⟩ := cellsD hb1
  go_enter Tryz.func5, Tryz.ntmps5
  go_wp2_with fail
  refine hC.mono ?_
  rintro e W1 ⟨rfl, hB1⟩
  clear hC hW c0 c1 f0 f1
  have hF1 := hBW.trans (hB1.mono hBW.size)
  have hk1 := blkB hb1 hB1
  have hk3 := blkB hb3 hB1
  by_cases hz : dkCode s v = 0
  case neg =>
    have bz : (dkCode s v != 0) = true := by simpa using hz
    have HP : Shut (syncCode s v = dkCode s v ∧ dkCode s v ≠ 0) := ⟨by rw [syncCode, if_neg hz], hz⟩
    clear hz
    generalize dkCode s v = z at bz HP ⊢
    obtain ⟨c0, c1, f0, f1⟩ := cellsD hk3
    go_wp2
    obtain ⟨W9, hW9, hb9, hk9, hB9⟩ := box2 W1 (w.heap.size + 1) 24 _ _ (.slice none 0 0) (.slice none 0 0) hk3
    rw [hW9]
    have hF9 := hB9 _ _ (by omega) hF1
    clear hW9 hB9 c0 c1 f0 f1
    obtain ⟨c0, c1, f0, f1⟩ := cellsD hb9
    refine bodyPost_ret (v := .tuple #[dkV none 0 0 none 0 0, .int .i64 z]) (by simp [results, Tryz.results5, go_sem, dkV, c0, c1]) rfl ?_
    exact ⟨SyncR.bad HP.out.1 HP.out.2 rfl, hF9⟩
  rw [hz]
  have hs60 : s.length + v.length ≤ 60000 := by
    rw [dkCode] at hz
    split at hz
    · cases hz
    · omega
  have HZ := Shut.mk hz
  clear hz
  have hJ := joinedD_any sa sc s wa wc v W1 (by omega) (by omega) (h1.below hB1 (Nat.le_refl _)) (h2.below hB1 (Nat.le_refl _))
  obtain ⟨n, hn⟩ : ∃ n, s.length + v.length = n := ⟨_, rfl⟩
  rw [hn] at hJ hs60
  have hsv : (s ++ v).length = n := by rw [List.length_append, hn]
  have HSV := Shut.mk hsv
  clear hn hsv
  obtain ⟨c0, c1, f0, f1⟩ := cellsD hk1
  go_wp2_with fail
  refine hJ.mono ?_
  rintro e W2 ⟨⟨pj, cj, rfl, hcj, hlj, hfj⟩, hb2⟩
  have hk3' := blkB hk3 hb2
  have hF2 := hF1.trans (hb2.mono hF1.size)
  have hL2 := (hLW.below hB1).below hb2
  have HFJ : Shut (∀ b o, pj = some ⟨b, o, none⟩ → w.heap.size + 1 < b) := ⟨fun b o e => by have := hfj b o e; have := (Array.getElem?_eq_some_iff.1 hk3).1; omega⟩
  clear hfj
  clear hJ hb2 hk1 hk3 c0 c1 f0 f1 hF1 hB1
  go_upto_region 5 with fail
  generalize hW3 : W2.alloc (.cells #[.slice pj n cj, .slice none 0 0] 24) = W3
  have hb3' : Below W2.heap.size W2 W3 := by rw [← hW3]; exact (Below.refl _ _).alloc (Nat.le_refl _) _
  have hq3 : W3.heap[W2.heap.size]? = some (.cells #[.slice pj n cj, .slice none 0 0] 24 (0, 0)) := by rw [← hW3, heap_alloc_eq, if_pos rfl]
  have hk3 := blkB hk3' hb3'
  have hF3 := hF2.trans (hb3'.mono hF2.size)
  have hlj3 := hlj.below hb3' (Nat.le_refl _)
  have hC2 := checkD_any pj cj none 0 (s ++ v) [] W3 (by rw [HSV.out]; omega) (by simp) (by rw [HSV.out]; exact hcj) hlj3 (hL2.below hb3')
  rw [HSV.out] at hC2
  simp only [dkV, List.length_nil] at hC2
  clear hW3 hb3' hk3' hlj hL2 hF2
  obtain ⟨c0, c1, f0, f1⟩ := cellsD hq3
  go_wp2_with fail
  refine hC2.mono ?_
  rintro e W4 ⟨rfl, hb4⟩
  have hq4 := blkB hq3 hb4
  have hk4 := blkB hk3 hb4
  have hF4 := hF3.trans (hb4.mono hF3.size)
  have hlj4 := hlj3.below hb4 (Nat.le_refl _)
  have hlt : w.heap.size + 1 < W1.heap.size ∨ True := Or.inr trivial
  clear hC2 hb4 hq3 hk3 hF3 hlj3 c0 c1 f0 f1 hlt
  by_cases hy : dkCode (s ++ v) [] = 0
  case neg =>
    have by' : (dkCode (s ++ v) [] != 0) = true := by simpa using hy
    have HP : Shut (syncCode s v = dkCode (s ++ v) [] ∧ dkCode (s ++ v) [] ≠ 0) := ⟨by rw [syncCode, if_pos HZ.out], hy⟩
    clear hy
    generalize dkCode (s ++ v) [] = z at by' HP ⊢
    obtain ⟨c0, c1, f0, f1⟩ := cellsD hk4
    go_wp2
    obtain ⟨W9, hW9, hb9, hk9, hB9⟩ := box2 W4 (w.heap.size + 1) 24 _ _ (.slice none 0 0) (.slice none 0 0) hk4
    rw [hW9]
    have hF9 := hB9 _ _ (by omega) hF4
    clear hW9 hB9 c0 c1 f0 f1
    obtain ⟨c0, c1, f0, f1⟩ := cellsD hb9
    refine bodyPost_ret (v := .tuple #[dkV none 0 0 none 0 0, .int .i64 z]) (by simp [results, Tryz.results5, go_sem, dkV, c0, c1]) rfl ?_
    exact ⟨SyncR.bad HP.out.1 HP.out.2 rfl, hF9⟩
  have HP : Shut (syncCode s v = 0) := ⟨by rw [syncCode, if_pos HZ.out, hy]⟩
  rw [hy]
  clear hy
  obtain ⟨a0, a1, _, _⟩ := cellsD hq4
  obtain ⟨c0, c1, f0, f1⟩ := cellsD hk4
  go_wp2
  obtain ⟨W9, hW9, hb9, hk9, hB9⟩ := box2 W4 (w.heap.size + 1) 24 _ _ (.slice pj n cj) (.slice none 0 0) hk4
  rw [hW9]
  have hF9 := hB9 _ _ (by omega) hF4
  clear hW9 hB9 c0 c1 f0 f1
  obtain ⟨c0, c1, f0, f1⟩ := cellsD hb9
  refine bodyPost_ret (v := .tuple #[dkV pj n cj none 0 0, .int .i64 0]) (by simp [results, Tryz.results5, go_sem, dkV, c0, c1]) rfl ?_
  exact ⟨SyncR.good HP.out ⟨pj, cj, none, 0, by rw [HSV.out]; rfl, by rw [HSV.out]; exact hcj, Nat.le_refl _, liesFar hlj4 hk9 (fun b o e => Nat.ne_of_gt (HFJ.out b o e)), Lies.nil _ _, fun b o e => by have := HFJ.out b o e; omega, fun b o e => by cases e⟩, hF9⟩

/-- what Crash says -/
def crashCode (s v : List UInt8) (n : Int) : Int := if dkCode s v = 0 then if n < 0 ∨ (v.length : Int) < n then 3 else 0 else dkCode s v

/-- what Crash leaves -/
def CrashR (B : Nat) (s v : List UInt8) (n : Int) (e : Ending) (w' : World) : Prop := DiskR B (crashCode s v n) (if crashCode s v n = 0 then s else []) (if crashCode s v n = 0 then v.take n.toNat else []) e w'

theorem CrashR.bad {B : Nat} {s v : List UInt8} {n z : Int} {e : Ending} {w' : World} (h : crashCode s v n = z) (hz : z ≠ 0) (he : e = .returned (.tuple #[dkV none 0 0 none 0 0, .int .i64 z])) : CrashR B s v n e w' := by
  unfold CrashR
  rw [h, if_neg hz, if_neg hz]
  exact DiskR.none he

theorem CrashR.good {B : Nat} {s v : List UInt8} {n : Int} {e : Ending} {w' : World} (h : crashCode s v n = 0) (he : DiskR B 0 s (v.take n.toNat) e w') : CrashR B s v n e w' := by
  unfold CrashR
  rw [h, if_pos rfl, if_pos rfl]
  exact he

theorem lies_takeB {w : World} {p : Option Addr} {l : List UInt8} (m : Nat) (h : Lies w p (bs l)) : Lies w p (bs (l.take m)) := by
  intro k u hu
  refine h k u ?_
  rw [bs, List.map_take, List.getElem?_take] at hu
  split at hu
  · exact hu
  · cases hu

set_option maxHeartbeats 4000000 in
set_option maxRecDepth 8000 in
theorem crashD_any (sa : Option Addr) (sc : Nat) (wa : Option Addr) (wc : Nat) (s v : List UInt8) (n : Int) (w : World) (ls : s.length ≤ 9223372036854775807) (lv : v.length ≤ 9223372036854775807) (hsc : s.length ≤ sc) (h1 : Lies w sa (bs s)) (h2 : Lies w wa (bs v)) (hwc : v.length ≤ wc) (hn : I64 n) (hL : LaidN w) :
    Calls Tryz.prog 6 #[dkV sa s.length sc wa v.length wc, .int .i64 n] w fun e w' => CrashR w.heap.size s v n e w' ∧ Below w.heap.size w w' := by
  obtain ⟨W, hW⟩ : ∃ W, (w.alloc (.cells #[.slice sa s.length sc, .slice wa v.length wc] 24)).alloc (.cells #[.slice none 0 0, .slice none 0 0] 24) = W := ⟨_, rfl⟩
  have hBW : Below w.heap.size w W := by rw [← hW]; exact ((Below.refl _ _).alloc (Nat.le_refl _) _).alloc (by simp) _
  have hb1 : W.heap[w.heap.size]? = some (.cells #[.slice sa s.length sc, .slice wa v.length wc] 24 (0, 0)) := by rw [← hW, heap_alloc_eq, if_neg (by simp), heap_alloc_eq, if_pos rfl]
  have hb3 : W.heap[w.heap.size + 1]? = some (.cells #[.slice none 0 0, .slice none 0 0] 24 (0, 0)) := by rw [← hW, heap_alloc_eq, if_pos (by simp)]
  replace h1 := Lies.below hBW h1 (Nat.le_refl _)
  replace h2 := Lies.below hBW h2 (Nat.le_refl _)
  have hLW := hL.below hBW
  have hC := checkD_any sa sc wa wc s v W ls lv hsc h1 hLW
  simp only [dkV] at hC ⊢
  clear hL
  obtain ⟨c0, c1, f0, f1⟩ := cellsD hb1
  go_enter Tryz.func6, Tryz.ntmps6
  go_wp2_with fail
  refine hC.mono ?_
  rintro e W1 ⟨rfl, hB1⟩
  clear hC hW c0 c1 f0 f1
  have hF1 := hBW.trans (hB1.mono hBW.size)
  have hk1 := blkB hb1 hB1
  have hk3 := blkB hb3 hB1
  by_cases hz : dkCode s v = 0
  case neg =>
    have bz : (dkCode s v != 0) = true := by simpa using hz
    have HP : Shut (crashCode s v n = dkCode s v ∧ dkCode s v ≠ 0) := ⟨by rw [crashCode, if_neg hz], hz⟩
    clear hz
    generalize dkCode s v = z at bz HP ⊢
    obtain ⟨c0, c1, f0, f1⟩ := cellsD hk3
    go_wp2
    obtain ⟨W9, hW9, hb9, hk9, hB9⟩ := box2 W1 (w.heap.size + 1) 24 _ _ (.slice none 0 0) (.slice none 0 0) hk3
    rw [hW9]
    have hF9 := hB9 _ _ (by omega) hF1
    clear hW9 hB9 c0 c1 f0 f1
    obtain ⟨c0, c1, f0, f1⟩ := cellsD hb9
    refine bodyPost_ret (v := .tuple #[dkV none 0 0 none 0 0, .int .i64 z]) (by simp [results, Tryz.results6, go_sem, dkV, c0, c1]) rfl ?_
    exact ⟨CrashR.bad HP.out.1 HP.out.2 rfl, hF9⟩
  rw [hz]
  have hs60 : s.length + v.length ≤ 60000 := by
    rw [dkCode] at hz
    split at hz
    · cases hz
    · omega
  have HZ := Shut.mk hz
  clear hz
  obtain ⟨c0, c1, f0, f1⟩ := cellsD hk1
  by_cases hr : n < 0 ∨ (v.length : Int) < n
  case pos =>
    have HP : Shut (crashCode s v n = 3) := ⟨by rw [crashCode, if_pos HZ.out, if_pos hr]⟩
    by_cases hneg : n < 0
    all_goals
      have hgt : ¬ n < 0 → n > (v.length : Int) := fun h => by rcases hr with h' | h'; exact absurd h' h; exact h'
      clear hr
      first
        | (have hgt2 : n > (v.length : Int) := hgt hneg)
        | skip
      clear hgt
      obtain ⟨e0, e1, f2, f3⟩ := cellsD hk3
      go_wp2
      obtain ⟨W9, hW9, hb9, hk9, hB9⟩ := box2 W1 (w.heap.size + 1) 24 _ _ (.slice none 0 0) (.slice none 0 0) hk3
      rw [hW9]
      have hF9 := hB9 _ _ (by omega) hF1
      clear hW9 hB9 c0 c1 f0 f1 e0 e1 f2 f3
      obtain ⟨c0, c1, f0, f1⟩ := cellsD hb9
      refine bodyPost_ret (v := .tuple #[dkV none 0 0 none 0 0, .int .i64 3]) (by simp [results, Tryz.results6, go_sem, dkV, c0, c1]) rfl ?_
      exact ⟨CrashR.bad HP.out (by decide) rfl, hF9⟩
  obtain ⟨m, rfl⟩ : ∃ m : Nat, n = m := ⟨n.toNat, by omega⟩
  have hm : m ≤ v.length := by omega
  have HP : Shut (crashCode s v m = 0) := ⟨by rw [crashCode, if_pos HZ.out, if_neg hr]⟩
  have hnr : ¬ ((m : Int) < 0) := by omega
  have hnv : ¬ ((m : Int) > (v.length : Int)) := by omega
  have hmc : m ≤ wc := by omega
  have hlm := lies_takeB m (h2.below hB1 (Nat.le_refl _))
  have hls := h1.below hB1 (Nat.le_refl _)
  have htl : (v.take m).length = m := by rw [List.length_take]; omega
  have HTL := Shut.mk htl
  have hCl : ∀ W', Below W1.heap.size W1 W' → Calls Tryz.prog 20 #[.slice sa s.length sc] W' fun e w' => ∃ x, e = .returned x ∧ (IsBytes W1.heap.size s.length s x w' ∧ Below W'.heap.size W' w' ∧ Below W1.heap.size W1 w') := fun W' hb => (cloneD_any sa sc s W' (by omega) (hls.below hb (Nat.le_refl _))).mono fun _ _ ⟨⟨p', c', e1, e2, e3, e9⟩, h⟩ => ⟨_, e1, ⟨p', c', rfl, e2, e3, fun b o e => Nat.le_trans hb.size (e9 b o e)⟩, h, hb.trans (h.mono hb.size)⟩
  have hCm : ∀ W', Below W1.heap.size W1 W' → Calls Tryz.prog 20 #[.slice wa m wc] W' fun e w' => ∃ x, e = .returned x ∧ (IsBytes W1.heap.size m (v.take m) x w' ∧ Below W'.heap.size W' w' ∧ Below W1.heap.size W1 w') := fun W' hb => by
    have h := cloneD_any wa wc (v.take m) W' (by omega) (hlm.below hb (Nat.le_refl _))
    rw [htl] at h
    exact h.mono fun _ _ ⟨⟨p', c', e1, e2, e3, e9⟩, h⟩ => ⟨_, e1, ⟨p', c', rfl, e2, e3, fun b o e => Nat.le_trans hb.size (e9 b o e)⟩, h, hb.trans (h.mono hb.size)⟩
  have HR4 : ∀ W', Below W1.heap.size W1 W' → W'.cell? ⟨w.heap.size, 0, none⟩ = some (.slice sa s.length sc) ∧ W'.cell? ⟨w.heap.size, 1, none⟩ = some (.slice wa v.length wc) ∧ W'.cell? ⟨w.heap.size + 1, 0, none⟩ = some (.slice none 0 0) ∧ W'.cell? ⟨w.heap.size + 1, 1, none⟩ = some (.slice none 0 0) ∧ W'.frozen? ⟨w.heap.size + 1, 0, none⟩ = false ∧ W'.frozen? ⟨w.heap.size + 1, 1, none⟩ = false := fun W' hb => by
    obtain ⟨a1, a2, _, _⟩ := cellsD (blkB hk1 hb)
    obtain ⟨a3, a4, a5, a6⟩ := cellsD (blkB hk3 hb)
    exact ⟨a1, a2, a3, a4, a5, a6⟩
  have B0 : Below W1.heap.size W1 W1.drew := (Below.refl _ _).drew
  clear hr htl h1 h2 hlm hls hs60
  go_upto_region 6 with fail
  clear c0 c1 f0 f1
  obtain ⟨c0, c1, d0, d1, g0, g1⟩ := HR4 _ B0
  have eg1 := entersClone
  go_region_law (first
    | (refine step_call1 entersClone rfl (.tmp 24) 22 rfl (.slice sa s.length sc) (by simp [Act.eval, Act.put]) (hCl _ (by with_reducible assumption)) ?_; rintro _ wk ⟨⟨pk, ck, rfl, hck, hlk, hfk⟩, hbk, B2⟩; obtain ⟨x0, x1, _, _, _, _⟩ := HR4 _ B2)
    | (refine step_call1 entersClone rfl (.tmp 29) 22 rfl (.slice wa m wc) (by simp [Act.eval, Act.put]) (hCm _ B2) ?_; rintro _ wj ⟨⟨pj, cj, rfl, hcj, hlj, hfj⟩, hbj, B5⟩; obtain ⟨y0, y1, y2, y3, y4, y5⟩ := HR4 _ B5))
  all_goals
    have hk5 := blkB hk3 B5
    have hlt : w.heap.size + 1 < W1.heap.size := (Array.getElem?_eq_some_iff.1 hk3).1
    have hlk5 := hlk.below hbj (Nat.le_refl _)
    have hF5 := hF1.trans (B5.mono hF1.size)
    clear hCl hCm HR4 B0 B2 B5 hbk hbj x0 x1 y0 y1 y2 y3 y4 y5 c0 c1 d0 d1 g0 g1 hlk eg1
    go_wp2
    obtain ⟨W9, hW9, hb9, hk9, hB9⟩ := box2 wj (w.heap.size + 1) 24 _ _ (.slice pk s.length ck) (.slice pj m cj) hk5
    rw [hW9]
    have hF9 := hB9 _ _ (by omega) hF5
    clear hW9 hB9
    obtain ⟨c0, c1, f0, f1⟩ := cellsD hb9
    refine bodyPost_ret (v := .tuple #[dkV pk s.length ck pj m cj, .int .i64 0]) (by simp [results, Tryz.results6, go_sem, dkV, c0, c1]) rfl ?_
    exact ⟨CrashR.good HP.out ⟨pk, ck, pj, cj, by rw [Int.toNat_natCast, HTL.out], hck, by rw [Int.toNat_natCast, HTL.out]; exact hcj, liesFar hlk5 hk9 (fun b o e => by have := hfk b o e; omega), liesFar hlj hk9 (fun b o e => by have := hfj b o e; omega), fun b o e => by have := hfk b o e; omega, fun b o e => by have := hfj b o e; omega⟩, hF9⟩

end Go.Proofs.YtekdigbdfeamkaaGreatDoor

/-
  Chapter 8: package disk's Recover.
-/
namespace Go.Proofs.YtekdigbdfeamkaaGreatDoor
open Go.RowKit
set_option linter.unusedVariables false
set_option linter.unusedSimpArgs false

/-- what Recover leaves -/
def RecovR (B : Nat) (s v : List UInt8) (e : Ending) (w' : World) : Prop :=
  (dkCode s v ≠ 0 ∧ e = .returned (.tuple #[dkV none 0 0 none 0 0, .slice none 0 0, .int .i64 (dkCode s v)])) ∨
  (dkCode s v = 0 ∧ ∃ (L : List MRec) (p : Option Addr) (cp : Nat) (sa : Option Addr) (sc m : Nat), e = .returned (.tuple #[dkV sa m sc none 0 0, .slice p L.length cp, .int .i64 0]) ∧ (linesL 200 (s ++ v)).2.1 = m ∧ L.map MRec.r = (linesL 200 (s ++ v)).1 ∧ L.length ≤ cp ∧ m ≤ sc ∧ Lies w' sa (bs ((s ++ v).take m)) ∧ Lies w' p (recCells L) ∧ (∀ y ∈ L, RecIn w' y ∧ RecNew B y) ∧ (∀ b o, sa = some ⟨b, o, none⟩ → B ≤ b) ∧ ∀ b o, p = some ⟨b, o, none⟩ → B ≤ b)

theorem RecIn.far {w w' : World} {g : Nat} {m : MRec} (h : RecIn w m) (hn : RecNew (g + 1) m) (hk : ∀ k, k ≠ g → w'.heap[k]? = w.heap[k]?) : RecIn w' m :=
  ⟨liesFar h.1 hk (fun b o e => by have := hn.1 b o e; omega), liesFar h.2 hk (fun b o e => by have := hn.2 b o e; omega)⟩

theorem RecNew.mono {B B' : Nat} {m : MRec} (h : RecNew B m) (hB : B' ≤ B) : RecNew B' m := ⟨fun b o e => Nat.le_trans hB (h.1 b o e), fun b o e => Nat.le_trans hB (h.2 b o e)⟩

set_option maxHeartbeats 4000000 in
set_option maxRecDepth 8000 in
theorem recovD_any (sa : Option Addr) (sc : Nat) (wa : Option Addr) (wc : Nat) (s v : List UInt8) (w : World) (ls : s.length ≤ 9223372036854775807) (lv : v.length ≤ 9223372036854775807) (hsc : s.length ≤ sc) (h1 : Lies w sa (bs s)) (h2 : Lies w wa (bs v)) (hL : LaidN w) :
    Calls Tryz.prog 7 #[dkV sa s.length sc wa v.length wc] w fun e w' => RecovR w.heap.size s v e w' ∧ Below w.heap.size w w' := by
  obtain ⟨W, hW⟩ : ∃ W, (w.alloc (.cells #[.slice sa s.length sc, .slice wa v.length wc] 24)).alloc (.cells #[.slice none 0 0, .slice none 0 0] 24) = W := ⟨_, rfl⟩
  have hBW : Below w.heap.size w W := by rw [← hW]; exact ((Below.refl _ _).alloc (Nat.le_refl _) _).alloc (by simp) _
  have hb1 : W.heap[w.heap.size]? = some (.cells #[.slice sa s.length sc, .slice wa v.length wc] 24 (0, 0)) := by rw [← hW, heap_alloc_eq, if_neg (by simp), heap_alloc_eq, if_pos rfl]
  have hb3 : W.heap[w.heap.size + 1]? = some (.cells #[.slice none 0 0, .slice none 0 0] 24 (0, 0)) := by rw [← hW, heap_alloc_eq, if_pos (by simp)]
  replace h1 := Lies.below hBW h1 (Nat.le_refl _)
  replace h2 := Lies.below hBW h2 (Nat.le_refl _)
  have hLW := hL.below hBW
  have hC := checkD_any sa sc wa wc s v W ls lv hsc h1 hLW
  simp only [dkV] at hC ⊢
  clear hL
  obtain ⟨c0, c1, f0, f1⟩ := cellsD hb1
  go_enter Tryz.func7, Tryz.ntmps7
  go_wp2_with fail
  refine hC.mono ?_
  rintro e W1 ⟨rfl, hB1⟩
  clear hC hW c0 c1 f0 f1
  have hF1 := hBW.trans (hB1.mono hBW.size)
  have hk1 := blkB hb1 hB1
  have hk3 := blkB hb3 hB1
  by_cases hz : dkCode s v = 0
  case neg =>
    have bz : (dkCode s v != 0) = true := by simpa using hz
    have HP : Shut (dkCode s v ≠ 0) := ⟨hz⟩
    obtain ⟨z, hz'⟩ : ∃ z, dkCode s v = z := ⟨_, rfl⟩
    have HQ := Shut.mk hz'
    clear hz
    rw [hz'] at bz ⊢
    clear hz'
    obtain ⟨c0, c1, f0, f1⟩ := cellsD hk3
    go_wp2
    obtain ⟨W9, hW9, hb9, hk9, hB9⟩ := box2 W1 (w.heap.size + 1) 24 _ _ (.slice none 0 0) (.slice none 0 0) hk3
    rw [hW9]
    have hF9 := hB9 _ _ (by omega) hF1
    clear hW9 hB9 c0 c1 f0 f1
    obtain ⟨c0, c1, f0, f1⟩ := cellsD hb9
    refine bodyPost_ret (v := .tuple #[dkV none 0 0 none 0 0, .slice none 0 0, .int .i64 z]) (by simp [results, Tryz.results7, go_sem, dkV, c0, c1]) rfl ?_
    exact ⟨Or.inl ⟨HP.out, by rw [HQ.out]⟩, hF9⟩
  rw [hz]
  have hs60 : s.length + v.length ≤ 60000 := by
    rw [dkCode] at hz
    split at hz
    · cases hz
    · omega
  have HZ := Shut.mk hz
  clear hz
  have hJ := joinedD_any sa sc s wa wc v W1 (by omega) (by omega) (h1.below hB1 (Nat.le_refl _)) (h2.below hB1 (Nat.le_refl _))
  obtain ⟨n, hn⟩ : ∃ n, s.length + v.length = n := ⟨_, rfl⟩
  rw [hn] at hJ hs60
  have hsv : (s ++ v).length = n := by rw [List.length_append, hn]
  have HSV := Shut.mk hsv
  clear hn hsv
  obtain ⟨c0, c1, f0, f1⟩ := cellsD hk1
  go_wp2_with fail
  refine hJ.mono ?_
  rintro e W2 ⟨⟨pj, cj, rfl, hcj, hlj, hfj⟩, hb2⟩
  have hk3' := blkB hk3 hb2
  have hF2 := hF1.trans (hb2.mono hF1.size)
  have hL2 := (hLW.below hB1).below hb2
  have hlt : w.heap.size + 1 < W2.heap.size := (Array.getElem?_eq_some_iff.1 hk3').1
  have hR := readD_any pj cj (s ++ v) W2 (by rw [HSV.out]; omega) (by rw [HSV.out]; exact hcj) hlj hL2
  rw [HSV.out] at hR
  clear hJ hb2 hk1 hk3 c0 c1 f0 f1 hF1 hB1 hfj
  go_wp2_with fail
  refine hR.mono ?_
  rintro e W3 ⟨hb3', L, p, cp, rfl, hmap, hLc, hlp, hall, hfp⟩
  have hk3 := blkB hk3' hb3'
  have hF3 := hF2.trans (hb3'.mono hF2.size)
  have hlj3 := hlj.below hb3' (Nat.le_refl _)
  have hsz := linesL_size 200 (s ++ v)
  obtain ⟨m, hm⟩ : ∃ m, (linesL 200 (s ++ v)).2.1 = m := ⟨_, rfl⟩
  rw [hm] at hsz ⊢
  rw [HSV.out] at hsz
  have HM := Shut.mk hm
  have HMAP := Shut.mk hmap
  have HALL := Shut.mk hall
  have HLT := Shut.mk hlt
  generalize (linesL 200 (s ++ v)).2.2 = z
  have htl : ((s ++ v).take m).length = m := by rw [List.length_take, HSV.out]; omega
  have hCl := cloneD_any pj cj ((s ++ v).take m) W3 (by omega) (lies_takeB m hlj3)
  rw [htl] at hCl
  have hmc : m ≤ cj := by omega
  clear hR hk3' hlj hL2 hF2 hb3' hmap hall hm htl hlj3 hlt
  go_wp2_with fail
  refine hCl.mono ?_
  rintro e W4 ⟨⟨pk, ck, rfl, hck, hlk, hfk⟩, hb4⟩
  have hk4 := blkB hk3 hb4
  have hF4 := hF3.trans (hb4.mono hF3.size)
  have hlp4 := hlp.below hb4 (Nat.le_refl _)
  have HFK : Shut (∀ b o, pk = some ⟨b, o, none⟩ → w.heap.size + 1 < b) := ⟨fun b o e => by have := hfk b o e; have := (Array.getElem?_eq_some_iff.1 hk3).1; omega⟩
  have HFP : Shut (∀ b o, p = some ⟨b, o, none⟩ → w.heap.size + 1 < b) := ⟨fun b o e => by have := hfp b o e; have := HLT.out; omega⟩
  have HIN : Shut (∀ y ∈ L, RecIn W4 y ∧ RecNew (w.heap.size + 1 + 1) y) := ⟨fun y hy => ⟨(HALL.out y hy).1.below hb4, (HALL.out y hy).2.mono HLT.out⟩⟩
  clear hCl hb4 hk3 hF3 hlp hfk hfp
  obtain ⟨c0, c1, f0, f1⟩ := cellsD hk4
  go_wp2
  obtain ⟨W9, hW9, hb9, hk9, hB9⟩ := box2 W4 (w.heap.size + 1) 24 _ _ (.slice pk m ck) (.slice none 0 0) hk4
  rw [hW9]
  have hF9 := hB9 _ _ (by omega) hF4
  clear hW9 hB9 c0 c1 f0 f1
  obtain ⟨c0, c1, f0, f1⟩ := cellsD hb9
  refine bodyPost_ret (v := .tuple #[dkV pk m ck none 0 0, .slice p L.length cp, .int .i64 0]) (by simp [results, Tryz.results7, go_sem, dkV, c0, c1]) rfl ?_
  exact ⟨Or.inr ⟨HZ.out, L, p, cp, pk, ck, m, rfl, HM.out, HMAP.out, hLc, hck, liesFar hlk hk9 (fun b o e => Nat.ne_of_gt (HFK.out b o e)), liesFar hlp4 hk9 (fun b o e => Nat.ne_of_gt (HFP.out b o e)), fun y hy => ⟨(HIN.out y hy).1.far (HIN.out y hy).2 hk9, (HIN.out y hy).2.mono (by omega)⟩, fun b o e => by have := HFK.out b o e; omega, fun b o e => by have := HFP.out b o e; omega⟩, hF9⟩

end Go.Proofs.YtekdigbdfeamkaaGreatDoor
