import Derived.Test.YtakkajjoeimkdaaGreatDoorPart30
import Derived.Test.YtakkajjoeimkdaaGreatDoorPart1
import Derived.Laws.BytesString
import Derived.Laws.Cells
import Derived.Test.YtakkajjoeimkdaaGreatDoorPart3
import Derived.Test.YtakkajjoeimkdaaGreatDoorPart2
import Derived.Shelf.Strings.BuilderK
import Derived.Test.YtakkajjoeimkdaaGreatDoorPart4
import Derived.Test.YtakkajjoeimkdaaGreatDoorPart8
import Derived.Lib.SmallJoins
import Derived.Lib.AppendIntMem
namespace Go.Proofs.YtakkajjoeimkdaaGreatDoor
open Go.RowKit
set_option linter.unusedVariables false
set_option linter.unusedSimpArgs false

theorem plEq {a b : Pl} : a = b ↔ a.me = b.me ∧ a.tm = b.tm ∧ a.sq = b.sq ∧ a.kp = b.kp := by
 obtain ⟨a0, a1, a2, a3⟩ := a
 obtain ⟨b0, b1, b2, b3⟩ := b
 simp only [Pl.mk.injEq]
 exact ⟨fun h => ⟨h.1, h.2.2.1, h.2.2.2, h.2.1⟩, fun h => ⟨h.1, h.2.2.2, h.2.1, h.2.2.1⟩⟩

structure PlSame (w : World) (P : Pl) (L : List MKp) (p : Option Addr) (n : Nat) : Prop where
 says : L.map MKp.k = P.kp
 lies : Lies w p (kpCells L)
 all : ∀ m ∈ L, KpSame w m
 len : L.length = n
 few : n ≤ maxLen

theorem PlSame.below {w w' : World} {P : Pl} {L : List MKp} {p : Option Addr} {n : Nat} (h : PlSame w P L p n) (hb : Below w.heap.size w w') : PlSame w' P L p n :=
 ⟨h.says, h.lies.below hb (Nat.le_refl _), fun m hm => (h.all m hm).below hb, h.len, h.few⟩

set_option maxHeartbeats 4000000 in
set_option maxRecDepth 8000 in
theorem keepSame_any (P Q : Pl) (L L' : List MKp) (p p' : Option Addr) (n n' c c' : Nat) (w : World) (h : PlSame w P L p n) (h' : PlSame w Q L' p' n') :
  Calls Tryz.prog 16 #[.agg #[.int .i64 P.me, .slice p n c, .int .i64 P.tm, .int .i64 P.sq], .agg #[.int .i64 Q.me, .slice p' n' c', .int .i64 Q.tm, .int .i64 Q.sq]] w fun e w' => ∃ z : Bool, e = .returned (.bool z) ∧ Shut ((z = true ↔ P = Q) ∧ Below w.heap.size w w') := by
 obtain ⟨W, hW⟩ : ∃ W, (w.alloc (.cells #[.int .i64 P.me, .slice p n c, .int .i64 P.tm, .int .i64 P.sq] 25)).alloc (.cells #[.int .i64 Q.me, .slice p' n' c', .int .i64 Q.tm, .int .i64 Q.sq] 25) = W := ⟨_, rfl⟩
 have hB : Below w.heap.size w W := by rw [← hW]; exact ((Below.refl _ _).alloc (Nat.le_refl _) _).alloc (by simp) _
 have hk : W.heap[w.heap.size]? = some (.cells #[.int .i64 P.me, .slice p n c, .int .i64 P.tm, .int .i64 P.sq] 25 (0, 0)) := by rw [← hW, heap_alloc_eq, if_neg (by simp), heap_alloc_eq, if_pos rfl]
 have hk' : W.heap[w.heap.size + 1]? = some (.cells #[.int .i64 Q.me, .slice p' n' c', .int .i64 Q.tm, .int .i64 Q.sq] 25 (0, 0)) := by rw [← hW, heap_alloc_eq, if_pos (by simp)]
 have HW := Shut.mk hW
 clear hW
 have hC := equalKp_any 44 (enters_of Tryz.func44 (by kernel_rfl) rfl) sameKept_any p p' c c' L L' W (by rw [h.len]; exact h.few) (by rw [h'.len]; exact h'.few) (h.lies.below hB (Nat.le_refl _)) (h'.lies.below hB (Nat.le_refl _)) (fun m hm => (h.all m hm).below hB) (fun m hm => (h'.all m hm).below hB)
 rw [h.len, h'.len, show (L.map fun x => MKp.k x) = P.kp from h.says, show (L'.map fun x => MKp.k x) = Q.kp from h'.says] at hC
 have ED : Shut (decide (P.kp = Q.kp) = true ↔ P.kp = Q.kp) := ⟨by simp⟩
 generalize decide (P.kp = Q.kp) = dd at hC ED
 have q0 : W.cell? ⟨w.heap.size, 0, none⟩ = some (.int .i64 P.me) := cellB hk 0 _ rfl
 have q1 : W.cell? ⟨w.heap.size, 1, none⟩ = some (.slice p n c) := cellB hk 1 _ rfl
 have q2 : W.cell? ⟨w.heap.size, 2, none⟩ = some (.int .i64 P.tm) := cellB hk 2 _ rfl
 have q3 : W.cell? ⟨w.heap.size, 3, none⟩ = some (.int .i64 P.sq) := cellB hk 3 _ rfl
 have s0 : W.cell? ⟨w.heap.size + 1, 0, none⟩ = some (.int .i64 Q.me) := cellB hk' 0 _ rfl
 have s1 : W.cell? ⟨w.heap.size + 1, 1, none⟩ = some (.slice p' n' c') := cellB hk' 1 _ rfl
 have s2 : W.cell? ⟨w.heap.size + 1, 2, none⟩ = some (.int .i64 Q.tm) := cellB hk' 2 _ rfl
 have s3 : W.cell? ⟨w.heap.size + 1, 3, none⟩ = some (.int .i64 Q.sq) := cellB hk' 3 _ rfl
 clear h h' hk hk'
 have no : ¬ (P.me = Q.me ∧ P.tm = Q.tm ∧ P.sq = Q.sq ∧ P.kp = Q.kp) → Shut (¬ P = Q) := fun g => ⟨fun e => absurd (plEq.1 e) g⟩
 go_enter Tryz.func16, Tryz.ntmps16
 go_upto_region 1 with fail
 rw [HW.out]
 clear HW
 rcases keq_cases P.me Q.me with ⟨bq0, e0⟩ | ⟨bq0, e0⟩
 ·have E0 := Shut.mk e0
  clear e0
  rcases keq_cases P.tm Q.tm with ⟨bq1, e1⟩ | ⟨bq1, e1⟩
  ·have E1 := Shut.mk e1
   clear e1
   rcases keq_cases P.sq Q.sq with ⟨bq2, e2⟩ | ⟨bq2, e2⟩
   ·have E2 := Shut.mk e2
    clear e2
    go_wp2_with fail
    refine hC.mono ?_
    rintro e W1 ⟨rfl, hb⟩
    have hB1 := hB.trans (hb.mono hB.size)
    have HE := Shut.mk (And.intro E0.out (And.intro E1.out E2.out))
    clear hC hb no
    cases dd with
    | true =>
     have R := Shut.mk (plEq.2 ⟨HE.out.1, HE.out.2.1, HE.out.2.2, ED.out.1 (by trivial)⟩)
     go_wp2
     go_ret
     exact ⟨true, rfl, ⟨⟨fun _ => R.out, fun _ => rfl⟩, hB1⟩⟩
    | false =>
     have R : Shut (¬ P = Q) := ⟨fun e => absurd (ED.out.2 (plEq.1 e).2.2.2) (by simp)⟩
     go_wp2
     go_ret
     exact ⟨false, rfl, ⟨⟨fun e => (by cases e), fun e => absurd e R.out⟩, hB1⟩⟩
   ·have E2 := Shut.mk e2
    clear e2
    have R := no (fun e => E2.out e.2.2.1)
    go_wp2
    go_ret
    exact ⟨false, rfl, ⟨⟨fun e => (by cases e), fun e => absurd e R.out⟩, hB⟩⟩
  ·have E1 := Shut.mk e1
   clear e1
   have R := no (fun e => E1.out e.2.1)
   go_wp2
   go_ret
   exact ⟨false, rfl, ⟨⟨fun e => (by cases e), fun e => absurd e R.out⟩, hB⟩⟩
 ·have E0 := Shut.mk e0
  clear e0
  have R := no (fun e => E0.out e.1)
  go_wp2
  go_ret
  exact ⟨false, rfl, ⟨⟨fun e => (by cases e), fun e => absurd e R.out⟩, hB⟩⟩

theorem foldlPush (l : List UInt8) (s : ByteArray) : ((l.map fun x => (x.toNat : Int)).foldl (fun r n => r.push (UInt8.ofNat n.toNat)) s).data.toList = s.data.toList ++ l := by
 induction l generalizing s with
 | nil => simp
 | cons x r ih =>
  simp only [List.map_cons, List.foldl_cons]
  rw [ih]
  simp [ByteArray.push]

theorem convBytes {w : World} {a : Option Addr} {n c : Nat} {l : List UInt8} (h : Lies w a (bs l)) (hl : l.length = n) :
  (convert 35 9 (.slice a n c)).run Tryz.prog w = .ok (.string ⟨l.toArray⟩) w := by
 rw [run_convert_bytes_string w 35 9 5 a n c Tryz.underlying35 Tryz.underlying5 Tryz.underlying9]
 cases a with
 | none =>
  have : l = [] := by
   cases l with
   | nil => rfl
   | cons x r => obtain ⟨_, _, e, _⟩ := h 0 _ (by simp [bs]; rfl); simp at e
  subst this
  simp [Conv.bytesToString, Sem.run_pure]
  rfl
 | some ad =>
  have hlc : (loadCells ad n).run Tryz.prog w = .ok ((l.map fun x => (x.toNat : Int)).map (Value.int .u8)).toArray w := by
   have hh := run_loadCells_list (P := Tryz.prog) w ad ((l.map fun x => (x.toNat : Int)).map (Value.int .u8)) (fun j v hj => by
    obtain ⟨b, off, e, hc⟩ := h j v (by simpa [bs] using hj)
    simp at e
    subst e
    simpa [Addr.add_lit] using hc)
   simpa [hl] using hh
  rw [run_bytesToString w ad n c _ hlc]
  congr 2
  have := foldlPush l ByteArray.empty
  simp at this
  cases hh : ((l.map fun x => (x.toNat : Int)).foldl (fun r n => r.push (UInt8.ofNat n.toNat)) ByteArray.empty) with
  | mk d =>
   rw [hh] at this
   simp at this
   subst this
   simp

theorem lies_nats {w : World} {a : Addr} {l : List UInt8} (h : Lies w (some a) (bs l)) : ∀ i, i < l.length → w.cell? (a.add i) = some (.int .u8 ((l.map fun x => (x.toNat : Int)).getD i 0)) := by
 intro i hi
 obtain ⟨b, off, e, hc⟩ := h i _ (bs_get l i hi)
 cases e
 rw [Addr.add_lit]
 simpa [hi] using hc

theorem lies_noneD {w : World} {l : List UInt8} (h : Lies w none (bs l)) : l = [] := by
 cases l with
 | nil => rfl
 | cons c r =>
  obtain ⟨b, off, e, _⟩ := h 0 _ (bs_get (c :: r) 0 (by simp))
  cases e

theorem cloneDk_any (p : Option Addr) (cp : Nat) (l : List UInt8) (w : World) (hn : l.length ≤ 140737488355328) (h : Lies w p (bs l)) :
  Calls Tryz.prog 40 #[.slice p l.length cp] w fun e w' => (∃ (p' : Option Addr) (cp' : Nat), e = .returned (.slice p' l.length cp') ∧ l.length ≤ cp' ∧ Lies w' p' (bs l) ∧ ∀ b o, p' = some ⟨b, o, none⟩ → w.heap.size ≤ b) ∧ Below w.heap.size w w' := by
 cases p with
 | none =>
  obtain rfl := lies_noneD h
  refine (Tryz.bytes_Clone_nil 0 cp w).mono ?_
  rintro e w' ⟨rfl, rfl⟩
  exact ⟨⟨none, 0, rfl, Nat.le_refl _, Lies.nil _ _, fun b o e => by cases e⟩, Below.refl _ _⟩
 | some a =>
  refine (Tryz.bytes_Clone_at a l.length cp _ w (by simp) hn (lies_nats h)).mono ?_
  rintro e w' ⟨v, rfl, hown, _, hb⟩
  have e1 : (l.map fun x => (x.toNat : Int)).map (Value.int .u8) = bs l := by simp [bs]
  rw [e1] at hown
  obtain ⟨p', cp', rfl, hl, _⟩ := own_lies hown
  have hcp : l.length ≤ cp' := by
   rcases hown.2 with ⟨e, h0⟩ | ⟨g, cap, cur, e, _, _, h1, _⟩
   ·rw [h0]; exact Nat.zero_le _
   ·cases e; exact h1
  exact ⟨⟨p', cp', rfl, hcp, hl, fun b o e => (hown.lt b (by rw [e]; rfl)).1⟩, hb⟩

theorem indexLF_any (a : Addr) (cp : Nat) (l : List UInt8) (w : World) (h : Lies w (some a) (bs l)) :
  Calls Tryz.prog 118 #[.slice (some a) l.length cp, .int .u8 10] w fun e w' => e = .returned (.int .i64 (Lib.indexByte l 10)) ∧ w = w' := by
 refine (Tryz.bytes_IndexByte_at a l.length cp _ 10 w (by simp) (lies_nats h)).mono ?_
 rintro e w' ⟨rfl, rfl⟩
 rw [bytesOf_nats]
 exact ⟨ret_int (by rw [show (10 : Int).toNat.toUInt8 = 10 from by decide]), rfl⟩

theorem indexLF_none : ∀ {l : List UInt8}, (10 : UInt8) ∉ l → Lib.indexByte l 10 = -1
 | [], _ => rfl
 | c :: l, h => by
  have h1 : ¬ (c == 10) = true := by simp; intro e; exact h (by simp [e])
  rw [Lib.indexByte, if_neg h1, indexLF_none (fun e => h (List.mem_cons_of_mem _ e))]
  rfl

theorem indexLF_hit : ∀ (a r : List UInt8), (10 : UInt8) ∉ a → Lib.indexByte (a ++ 10 :: r) 10 = a.length
 | [], r, _ => by simp [Lib.indexByte]
 | c :: a, r, h => by
  have h1 : ¬ (c == 10) = true := by simp; intro e; exact h (by simp [e])
  rw [List.cons_append, Lib.indexByte, if_neg h1, indexLF_hit a r (fun e => h (List.mem_cons_of_mem _ e))]
  simp

def dkV (sa : Option Addr) (sn sc : Nat) (wa : Option Addr) (wn wc : Nat) : Value := .agg #[.slice sa sn sc, .slice wa wn wc]

theorem hasRoom_any (sa : Option Addr) (sn sc : Nat) (wa : Option Addr) (wn wc : Nat) (m : Nat) (w : World) (h1 : sn ≤ 9223372036854775807) (h2 : wn ≤ 9223372036854775807) (h3 : m ≤ 60001) :
  Calls Tryz.prog 39 #[dkV sa sn sc wa wn wc, .int .i64 m] w fun e w' => e = .returned (.bool (decide (sn + wn + m ≤ 60000))) ∧ Below w.heap.size w w' := by
 simp only [dkV]
 have hB : Below w.heap.size w (w.alloc (.cells #[.slice sa sn sc, .slice wa wn wc] 43)) := (Below.refl _ _).alloc (Nat.le_refl _) _
 have hd : decide ((wn : Int) ≤ 60000 - (m : Int) - (sn : Int)) = decide (sn + wn + m ≤ 60000) := by
  rw [decide_eq_decide]; omega
 go_enter Tryz.func39, Tryz.ntmps39
 go_wp2
 go_ret
 exact ⟨rfl, hB⟩

theorem copyL (w : World) (g o dLen dCap : Nat) (p : Option Addr) (sc : Nat) (l : List UInt8) (cur : List Value) (hg : w.heap[g]? = some (.cells cur.toArray 5 (0, 0))) (hl : Lies w p (bs l)) (hd : l.length ≤ dLen) (hfit : o + l.length ≤ cur.length) :
  ∃ W', (Builtin.copy_ #[35, 35] 3 #[.slice (some ⟨g, o, none⟩) dLen dCap, .slice p l.length sc]).run Tryz.prog w = .ok (.int .i64 (l.length : Int)) W' ∧ W'.heap[g]? = some (.cells (cur.take o ++ bs l ++ cur.drop (o + l.length)).toArray 5 (0, 0)) ∧ ∀ B w0, B ≤ g → Below B w0 w → Below B w0 W' := by
 cases p with
 | none =>
  obtain rfl := lies_noneD hl
  refine ⟨w, ?_, by simpa [bs] using hg, fun _ _ _ h => h⟩
  have hs : ((Tryz.prog.info? 5).map (·.size)).isSome = true := by rw [sizeU8]; rfl
  cases hq : Tryz.prog.info? 5 with
  | none => simp [hq] at hs
  | some i => simp [Builtin.copy_, run_underlying Tryz.underlying35, Builtin.lenOf, Builtin.firstCells, sizeOf, typeInfo, hq, storeCells, goInt]
 | some a =>
  have h1 := run_copy_row Tryz.prog w 35 35 3 5 g o dLen dCap a l.length sc cur.toArray 5 (bs l) Tryz.underlying35 sizeU8 hg (by rw [bs_length]; exact (Nat.min_eq_left hd).symm)
   (fun j v hj => by
    obtain ⟨b, off, e, hc⟩ := hl j v hj
    cases e
    rw [Addr.add_lit]
    exact hc) (by simpa [bs_length] using hfit) (bs_one (l := l) rfl)
  rw [bs_length] at h1
  exact ⟨_, h1, setRow_heap w g _ _ _ _ hg, fun B w0 hB hb => below_setRow hb hB _⟩

set_option maxHeartbeats 1000000 in
set_option maxRecDepth 8000 in
theorem joinedD_any (p : Option Addr) (cp : Nat) (x : List UInt8) (q : Option Addr) (cq : Nat) (y : List UInt8) (w : World) (hx : x.length ≤ 60000) (hy : y.length ≤ 60000) (hp : Lies w p (bs x)) (hq : Lies w q (bs y)) :
  Calls Tryz.prog 41 #[.slice p x.length cp, .slice q y.length cq] w fun e w' => (∃ (p' : Option Addr) (c' : Nat), e = .returned (.slice p' (x.length + y.length) c') ∧ x.length + y.length ≤ c' ∧ Lies w' p' (bs (x ++ y)) ∧ ∀ b o, p' = some ⟨b, o, none⟩ → w.heap.size ≤ b) ∧ Below w.heap.size w w' := by
 obtain ⟨n, hn⟩ : ∃ n, x.length + y.length = n := ⟨_, rfl⟩
 have hmk := run_make_row' (P := Tryz.prog) 35 5 (.int .u8 0) 1 Tryz.underlying35 infoU8 rfl .i64 .i64 n (by omega) (by omega)
 have hni : (x.length : Int) + (y.length : Int) = (n : Int) := by omega
 obtain ⟨xn, hxn⟩ : ∃ xn, x.length = xn := ⟨_, rfl⟩
 obtain ⟨yn, hyn⟩ : ∃ yn, y.length = yn := ⟨_, rfl⟩
 rw [hxn, hyn] at hni hn ⊢
 rw [hn]
 go_enter Tryz.func41, Tryz.ntmps41
 have hm0 : (madeCells #[Value.int .u8 0] n) = (List.replicate n (Value.int .u8 0)).toArray := by
  apply Array.ext'
  rw [toList_madeCells_one]
 rw [hm0] at hmk
 go_upto_region 2 with fail
 generalize hW1 : w.alloc (.cells (Array.replicate n (Value.int .u8 0)) 5) = W1
 have hb1 : Below w.heap.size w W1 := by rw [← hW1]; exact (Below.refl _ _).alloc (Nat.le_refl _) _
 have hg1 : W1.heap[w.heap.size]? = some (.cells (List.replicate n (Value.int .u8 0)).toArray 5 (0, 0)) := by rw [← hW1, heap_alloc_eq, if_pos rfl]; simp
 obtain ⟨W2, hc2, hg2, hk2⟩ := copyL W1 w.heap.size 0 n n p cp x _ hg1 (hp.below hb1 (Nat.le_refl _)) (by omega) (by simp; omega)
 rw [hxn] at hc2
 have hb2 := hk2 _ _ (Nat.le_refl _) hb1
 have hcur : List.take 0 (List.replicate n (Value.int .u8 0)) ++ bs x ++ List.drop (0 + x.length) (List.replicate n (Value.int .u8 0)) = bs x ++ List.replicate yn (Value.int .u8 0) := by
  simp
  omega
 rw [hcur] at hg2
 have hq2 := hq.below hb2 (Nat.le_refl _)
 clear hW1 hmk hcur hm0 hg1 hk2
 go_upto_region 3 with fail
 clear hc2
 by_cases hy0 : yn = 0
 ·subst hy0
  obtain rfl : y = [] := List.length_eq_zero_iff.1 hyn
  obtain rfl : xn = n := by omega
  obtain ⟨W3, hc3, hg3, hk3⟩ := copyL W2 w.heap.size 0 0 0 q cq [] _ hg2 hq2 (by simp) (by simp)
  have hb3 := hk3 _ _ (Nat.le_refl _) hb2
  simp only [List.length_nil] at hc3
  have hL3 : Lies W3 (some ⟨w.heap.size, 0, none⟩) (bs (x ++ [])) := by
   have := Lies.of_block hg3
   simpa [bs] using this
  go_wp2
  go_ret
  exact ⟨⟨_, _, rfl, by omega, hL3, fun b o e => by cases e; exact Nat.le_refl _⟩, hb3⟩
 ·have hne : ¬ n = xn := by omega
  obtain ⟨W3, hc3, hg3, hk3⟩ := copyL W2 w.heap.size xn yn yn q cq y _ hg2 hq2 (by omega) (by simp [bs_length]; omega)
  rw [hyn] at hc3
  have hb3 := hk3 _ _ (Nat.le_refl _) hb2
  have e1 : n - xn = yn := by omega
  have hL3 : Lies W3 (some ⟨w.heap.size, 0, none⟩) (bs (x ++ y)) := by
   have h3 := Lies.of_block hg3
   have e2 : List.take xn (bs x ++ List.replicate yn (Value.int .u8 0)) ++ bs y ++ List.drop (xn + y.length) (bs x ++ List.replicate yn (Value.int .u8 0)) = bs (x ++ y) := by
    rw [List.take_left' (by rw [bs_length, hxn]), List.drop_eq_nil_of_le (by simp [bs_length]; omega)]
    simp [bs]
   rw [e2] at h3
   simpa using h3
  go_wp2
  go_ret
  exact ⟨⟨_, _, rfl, by omega, hL3, fun b o e => by cases e; exact Nat.le_refl _⟩, hb3⟩

def bldRen : Go.Shelf.Ren := ⟨fun | 167 => 114 | 240 => 139 | 276 => 169 | 169 => 115 | n => n, fun | 0 => 0 | 4 => 4 | 5 => 5 | 9 => 9 | 20 => 20 | 37 => 35 | 70 => 178 | 72 => 180 | 75 => 182 | 164 => 247 | 80 => 185 | n => n, fun | n => n⟩

theorem bld167 : Go.Proofs.Lays.n167 Tryz.prog bldRen := {
 mixed := by kernel_rfl
 f167 := Tryz.func114.trans (congrArg some (by kernel_rfl))
 f240 := Tryz.func139.trans (congrArg some (by kernel_rfl))
 f276 := Tryz.func169.trans (congrArg some (by kernel_rfl))
 t0 := Tryz.underlying0
 a0 := Tryz.isAgg0
 z0 := Tryz.sizeOf0
 v0 := Tryz.zeroValue0
 t4 := Tryz.underlying4
 a4 := Tryz.isAgg4
 z4 := Tryz.sizeOf4
 v4 := Tryz.zeroValue4
 t5 := Tryz.underlying5
 a5 := Tryz.isAgg5
 z5 := Tryz.sizeOf5
 v5 := Tryz.zeroValue5
 t9 := Tryz.underlying9
 a9 := Tryz.isAgg9
 z9 := Tryz.sizeOf9
 v9 := Tryz.zeroValue9
 t20 := Tryz.underlying20
 a20 := Tryz.isAgg20
 z20 := Tryz.sizeOf20
 v20 := Tryz.zeroValue20
 t37 := Tryz.underlying35
 a37 := Tryz.isAgg35
 z37 := Tryz.sizeOf35
 v37 := Tryz.zeroValue35
 t70 := Tryz.underlying178
 a70 := Tryz.isAgg178
 z70 := Tryz.sizeOf178
 v70 := Tryz.zeroValue178
 t72 := Tryz.underlying180
 a72 := Tryz.isAgg180
 z72 := Tryz.sizeOf180
 v72 := Tryz.zeroValue180
 t75 := Tryz.underlying182
 a75 := Tryz.isAgg182
 z75 := Tryz.sizeOf182
 v75 := Tryz.zeroValue182
 t164 := Tryz.underlying247
 a164 := Tryz.isAgg247
 z164 := Tryz.sizeOf247
 v164 := Tryz.zeroValue247 }

theorem bldExtra : Builder.Extra Tryz.prog bldRen := {
 sizeBuilder := by kernel_rfl
 liesBuilder := by kernel_rfl
 t5 := Tryz.underlying5
 a5 := Tryz.isAgg5
 z5 := Tryz.sizeOf5
 v5 := Tryz.zeroValue5
 infoByte := by kernel_rfl
 cellsByte := by kernel_rfl
 sizeByte := by kernel_rfl
 neB5 := by decide }

theorem writeByte_any (B b : Nat) (bs : List Value) (c : Int) (w : World) (h : Lib.IsBuilderF 180 5 B b bs w) (hlen : bs.length + 1 ≤ 140737488355328) (hBw : B ≤ w.heap.size) :
  Calls Tryz.prog 114 #[.pointer (some ⟨b, 0, none⟩), .int .u8 c] w fun e w' => e = .returned .nilIface ∧ (Lib.BuilderAtF 180 5 B b (.pointer (some ⟨b, 0, none⟩)) (bs ++ [.int .u8 c]) w' ∧ Below B w w' ∧ Lib.OthersKept 5 (some b) w w') :=
 Any.Builder_WriteByte_k bld167 bldExtra B b bs c w h hlen hBw

theorem digGet : ∀ (m : Nat) (h : m < ({ data := #[48, 49, 50, 51, 52, 53, 54, 55, 56, 57, 97, 98, 99, 100, 101, 102] } : ByteArray).size), ({ data := #[48, 49, 50, 51, 52, 53, 54, 55, 56, 57, 97, 98, 99, 100, 101, 102] } : ByteArray)[m]'h = dig m
 | 0, _ => rfl
 | 1, _ => rfl
 | 2, _ => rfl
 | 3, _ => rfl
 | 4, _ => rfl
 | 5, _ => rfl
 | 6, _ => rfl
 | 7, _ => rfl
 | 8, _ => rfl
 | 9, _ => rfl
 | 10, _ => rfl
 | 11, _ => rfl
 | 12, _ => rfl
 | 13, _ => rfl
 | 14, _ => rfl
 | 15, _ => rfl
 | m + 16, h => absurd h (by show ¬ m + 16 < 16; omega)

theorem byteCells_snoc (l : List UInt8) (c : UInt8) : Lib.byteCells l ++ [.int .u8 (c.toNat : Int)] = Lib.byteCells (l ++ [c]) := by
 simp [Lib.byteCells]

theorem hexW_next (l : List UInt8) (q : Nat) (h : q < l.length) : hexW (l.take q) ++ [dig (l[q].toNat / 16)] ++ [dig (l[q].toNat % 16)] = hexW (l.take (q + 1)) := by
 have e : l.take (q + 1) = l.take q ++ [l[q]] := by rw [List.take_add_one, List.getElem?_eq_getElem h]; rfl
 rw [e, hexW, hexW, hexL_append, hexL_cons, hexL_nil]
 simp only [List.cons_append, List.append_assoc, List.nil_append]

theorem hexW_len (l : List UInt8) : (hexW l).length = 2 * l.length + 1 := by
 simp [hexW, hexL_len]

def HexInv (w wr : World) (l : List UInt8) (q : Nat) : Prop :=
 Lib.IsBuilderF 180 5 w.heap.size w.heap.size (Lib.byteCells (hexW (l.take q))) wr ∧ Below w.heap.size w wr

set_option maxHeartbeats 1000000 in
set_option maxRecDepth 8000 in
theorem hexOf_any (a : Option Addr) (cap : Nat) (l : List UInt8) (w : World) (hn : l.length ≤ 1048576) (hl : Lies w a (bs l)) :
  Calls Tryz.prog 80 #[.slice a l.length cap] w fun e w' => e = .returned (.string ⟨(hexW l).toArray⟩) ∧ Below w.heap.size w w' := by
 have hB0 : Below w.heap.size w (w.alloc (.cells #[.pointer none, .slice none 0 0] 180)) := (Below.refl _ _).alloc (Nat.le_refl _) _
 have hI0 : Lib.IsBuilderF 180 5 w.heap.size w.heap.size [] (w.alloc (.cells #[.pointer none, .slice none 0 0] 180)) := Lib.IsBuilderF.of (Lib.fresh_isBuilder 180 5 w)
 have hW1 := writeByte_any w.heap.size w.heap.size [] 45 _ hI0 (by simp) hB0.size
 go_enter Tryz.func80, Tryz.ntmps80
 go_wp2_with fail
 refine hW1.mono ?_
 rintro e w1 ⟨rfl, h1, hb1, _⟩
 have H0 : Shut (HexInv w w1 l 0) := ⟨Or.inr h1, hB0.trans hb1⟩
 clear hW1 hI0 hB0 h1 hb1
 go_wp2_with fail
 go_loopw [9] (fun m wr => ∃ q : Nat, q ≤ l.length ∧ m = .int .i64 q ∧ Shut (HexInv w wr l q)) (fun m _ => l.length - (intOf m).toNat)
 case atStart => exact ⟨0, Nat.zero_le _, rfl, H0⟩
 case round =>
  clear H0
  obtain ⟨q, hq, rfl, hI⟩ := hrel
  by_cases hlt : q < l.length
  ·obtain ⟨ab, ao, rfl⟩ := hl.some (k := q) (by rw [bs_length]; exact hlt)
   have c1 : wr.cell? ⟨ab, ao + q, none⟩ = some (.int .u8 (l[q].toNat : Int)) := (hl.below hI.out.2 (Nat.le_refl _)).at (bs_get l q hlt)
   have hx := l[q].toNat_lt
   have hlen : (hexW (l.take q)).length ≤ 2 * l.length + 1 := by rw [hexW_len, List.length_take]; omega
   generalize hxq : l[q].toNat = x at c1 hx
   have hx1 : x / 16 < 16 := by omega
   have hx2 : x % 16 < 16 := by omega
   go_wp2_with fail
   rw [digGet]
   refine (writeByte_any w.heap.size w.heap.size _ _ wr hI.out.1 (by rw [Lib.byteCells_length]; omega) hI.out.2.size).mono ?_
   rintro e w2 ⟨rfl, h2, hb2, _⟩
   rw [byteCells_snoc] at h2
   have hb3 := hI.out.2.trans hb2
   have hW2 := writeByte_any w.heap.size w.heap.size _ ((dig (x % 16)).toNat : Int) w2 (Or.inr h2) (by rw [Lib.byteCells_length, List.length_append]; simp; omega) hb3.size
   clear hb2
   go_wp2_with fail
   rw [digGet]
   refine hW2.mono ?_
   rintro e w3 ⟨rfl, h3, hb4, _⟩
   rw [byteCells_snoc, ← hxq, hexW_next l q hlt] at h3
   have R : Shut (HexInv w w3 l (q + 1)) := ⟨Or.inr h3, hb3.trans hb4⟩
   clear h3 hb3 hb4 hW2 h2 hI c1
   go_wp2
   exact ⟨⟨q + 1, by omega, by go_num, R⟩, by simp [intOf]; omega⟩
  ·obtain rfl : q = l.length := by omega
   have hS := Tryz.Builder_String_any_k w.heap.size w.heap.size _ wr hI.out.1 hI.out.2.size
   rw [List.take_length] at hS
   have hb := hI.out.2
   clear hI
   go_wp2_with fail
   refine hS.mono ?_
   rintro e w2 ⟨rfl, _, hb2, _⟩
   replace hb := hb.trans hb2
   clear hS hb2
   go_wp2
   go_ret
   exact ⟨rfl, hb⟩

theorem dash_cases (l : List UInt8) : (Lib.hasPrefix l [45] = true ∧ ∃ r, l = 45 :: r) ∨ (Lib.hasPrefix l [45] = false ∧ byW l = none) := by
 cases l with
 | nil => right; exact ⟨rfl, rfl⟩
 | cons c r =>
  by_cases h : c = 45
  ·left; subst h; exact ⟨by simp [Lib.hasPrefix], r, rfl⟩
  ·right
   refine ⟨?_, ?_⟩
   ·show (([45] : List UInt8).isPrefixOf (c :: r)) = false
    simp only [List.isPrefixOf]
    have : (45 == c) = false := beq_eq_false_iff_ne.2 (fun e => h e.symm)
    rw [this]; rfl
   ·unfold byW
    split
    ·rename_i e; injection e with e1 e2; exact absurd e1 h
    ·rfl

theorem cutDashL_yes (s : ByteArray) (w : World) (h : Lib.hasPrefix s.data.toList [45] = true) :
  Calls Tryz.prog 222 #[.string s, .string ⟨#[45]⟩] w fun e w' => e = .returned (.tuple #[.string (s.extract 1 s.size), .bool true]) ∧ w = w' := by
 have hP := Tryz.stringslite_HasPrefix s ⟨#[45]⟩ w
 have e1 : Lib.hasPrefix s.data.toList (⟨#[45]⟩ : ByteArray).data.toList = true := h
 rw [e1] at hP
 have hs : 1 ≤ s.size := by
  rcases dash_cases s.data.toList with ⟨_, r, e⟩ | ⟨e, _⟩
  ·have : s.size = (45 :: r).length := by rw [← e, Array.length_toList]; rfl
   rw [this, List.length_cons]; omega
  ·rw [h] at e; cases e
 go_enter Tryz.func222, Tryz.ntmps222
 go_wp2_with fail
 refine hP.mono ?_
 rintro e _ ⟨rfl, rfl⟩
 go_wp2
 go_ret2
 exact ⟨rfl, rfl⟩

theorem cutDashL_no (s : ByteArray) (w : World) (h : Lib.hasPrefix s.data.toList [45] = false) :
  Calls Tryz.prog 222 #[.string s, .string ⟨#[45]⟩] w fun e w' => e = .returned (.tuple #[.string s, .bool false]) ∧ w = w' := by
 have hP := Tryz.stringslite_HasPrefix s ⟨#[45]⟩ w
 have e1 : Lib.hasPrefix s.data.toList (⟨#[45]⟩ : ByteArray).data.toList = false := h
 rw [e1] at hP
 go_enter Tryz.func222, Tryz.ntmps222
 go_wp2_with fail
 refine hP.mono ?_
 rintro e _ ⟨rfl, rfl⟩
 go_wp2
 go_ret2
 exact ⟨rfl, rfl⟩

theorem cutDash_yes (s : ByteArray) (w : World) (h : Lib.hasPrefix s.data.toList [45] = true) :
  Calls Tryz.prog 200 #[.string s, .string ⟨#[45]⟩] w fun e w' => e = .returned (.tuple #[.string (s.extract 1 s.size), .bool true]) ∧ w = w' := by
 have hP := cutDashL_yes s w h
 go_enter Tryz.func200, Tryz.ntmps200
 go_wp2_with fail
 refine hP.mono ?_
 rintro e _ ⟨rfl, rfl⟩
 go_wp2
 go_ret2
 exact ⟨rfl, rfl⟩

theorem cutDash_no (s : ByteArray) (w : World) (h : Lib.hasPrefix s.data.toList [45] = false) :
  Calls Tryz.prog 200 #[.string s, .string ⟨#[45]⟩] w fun e w' => e = .returned (.tuple #[.string s, .bool false]) ∧ w = w' := by
 have hP := cutDashL_no s w h
 go_enter Tryz.func200, Tryz.ntmps200
 go_wp2_with fail
 refine hP.mono ?_
 rintro e _ ⟨rfl, rfl⟩
 go_wp2
 go_ret2
 exact ⟨rfl, rfl⟩

theorem digIndex (x : UInt8) (w : World) : Calls Tryz.prog 201 #[.string { data := #[48, 49, 50, 51, 52, 53, 54, 55, 56, 57, 97, 98, 99, 100, 101, 102] }, .int .u8 (x.toNat : Int)] w fun e w' => e = .returned (.int .i64 (digI x)) ∧ w = w' := by
 refine (Tryz.strings_IndexByte _ _ w).mono ?_
 rintro e w' ⟨rfl, rfl⟩
 refine ⟨ret_int ?_, rfl⟩
 rw [Int.toNat_natCast]
 show Lib.indexByte digsL (UInt8.ofNat x.toNat) = digI x
 rw [UInt8.ofNat_toNat]
 rfl

theorem getB (D : ByteArray) (i : Nat) (h : i < D.size) : D[i] = D.data.toList[i]'(by simpa using h) := by
 simp [ByteArray.getElem_eq_getElem_data]

theorem sizeB (D : ByteArray) : D.data.toList.length = D.size := by simp

def HexRd (w wr : World) (v : Value) (ds : List UInt8) (q : Nat) : Prop :=
 ∃ a : List UInt8, a.length = q ∧ wr.ownsRow w.heap.size 5 1 v q (bs a) ∧ Below w.heap.size w wr ∧ unhex ds = (unhex (ds.drop (2 * q))).map (a ++ ·)

theorem drop_two {ds : List UInt8} {q : Nat} (h : 2 * q + 1 < ds.length) : ds.drop (2 * q) = ds[2 * q] :: ds[2 * q + 1] :: ds.drop (2 * (q + 1)) := by
 rw [List.drop_eq_getElem_cons (by omega), List.drop_eq_getElem_cons (by omega)]
 rfl

def BytesR (B : Nat) (o : Option (List UInt8)) (e : Ending) (w' : World) : Prop :=
 match o with
 | none => e = .returned (.tuple #[.slice none 0 0, .bool false])
 | some l => ∃ (p : Option Addr) (cp : Nat), e = .returned (.tuple #[.slice p l.length cp, .bool true]) ∧ Lies w' p (bs l) ∧ ∀ b o, p = some ⟨b, o, none⟩ → B ≤ b

theorem orHexF : ∀ x y : Fin 16, bits BinOp.or IntKind.i64 (((x.val : Nat) : Int) * 16) ((y.val : Nat) : Int) % 256 = ((UInt8.ofNat (x.val * 16 + y.val)).toNat : Int) := by decide +kernel

theorem orHex (x y : Nat) (hx : x < 16) (hy : y < 16) : bits BinOp.or IntKind.i64 ((x : Int) * 16) (y : Int) % 256 = ((UInt8.ofNat (x * 16 + y)).toNat : Int) := orHexF ⟨x, hx⟩ ⟨y, hy⟩

set_option maxHeartbeats 1000000 in
set_option maxRecDepth 8000 in
theorem bytesOf_even (s D : ByteArray) (w : World) (hC : Calls Tryz.prog 200 #[.string s, .string ⟨#[45]⟩] w fun e w' => e = .returned (.tuple #[.string D, .bool true]) ∧ w = w') (hev : D.size % 2 = 0) (hs : D.size ≤ 60000) :
  Calls Tryz.prog 173 #[.string s] w fun e w' => Below w.heap.size w w' ∧ BytesR w.heap.size (unhex D.data.toList) e w' := by
 have hev' : (D.size : Int) % 2 = 0 := by omega
 obtain ⟨i0, hii, hz0, hz1, hz2⟩ := info_parts infoU8
 have H0 : Shut (HexRd w w (.slice none 0 0) D.data.toList 0) := ⟨[], rfl, World.ownsRow_nil _ _ _ _, Below.refl _ _, by rw [Nat.mul_zero, List.drop_zero]; cases unhex D.data.toList <;> rfl⟩
 go_enter Tryz.func173, Tryz.ntmps173
 go_wp2_with fail
 refine hC.mono ?_
 rintro e _ ⟨rfl, rfl⟩
 go_wp2_with fail
 go_loopw [6, 7] (fun v i wr => ∃ q : Nat, i = .int .i64 (2 * q : Nat) ∧ 2 * q ≤ D.size ∧ Shut (HexRd w wr v D.data.toList q)) (fun _ i _ => D.size - (intOf i).toNat)
 case atStart => exact ⟨0, rfl, by omega, H0⟩
 case round =>
  clear H0
  obtain ⟨q, rfl, hq, hI⟩ := hrel
  by_cases hlt : 2 * q < D.size
  ·have hlt2 : 2 * q + 1 < D.size := by omega
   clear hev hev'
   obtain ⟨a, ha, hown, hbel, hun⟩ := hI.out
   rw [drop_two (by rw [sizeB]; exact hlt2), ← getB D (2 * q) hlt, ← getB D (2 * q + 1) hlt2, unhex] at hun
   have HU := Shut.mk hun
   clear hun hI
   have i1 := digIndex (D[2 * q]) wr
   have i2 := digIndex (D[2 * q + 1]) wr
   rcases digI_all (D[2 * q]) with m1 | ⟨m1, m2, m3⟩
   ·have u1 : Shut (unhex D.data.toList = none) := ⟨by rw [HU.out, if_pos (Or.inl (by omega))]; rfl⟩
    rw [m1] at i1
    go_wp2_with fail
    refine i1.mono ?_
    rintro e _ ⟨rfl, rfl⟩
    go_wp2_with fail
    refine i2.mono ?_
    rintro e _ ⟨rfl, rfl⟩
    go_wp2
    go_ret2
    exact ⟨hbel, by rw [u1.out]; rfl⟩
   ·rcases digI_all (D[2 * q + 1]) with n1 | ⟨n1, n2, n3⟩
    ·have u1 : Shut (unhex D.data.toList = none) := ⟨by rw [HU.out, if_pos (Or.inr (by omega))]; rfl⟩
     have b1 : ¬ digI D[2 * q] < 0 := by omega
     rw [n1] at i2
     go_wp2_with fail
     refine i1.mono ?_
     rintro e _ ⟨rfl, rfl⟩
     go_wp2_with fail
     refine i2.mono ?_
     rintro e _ ⟨rfl, rfl⟩
     go_wp2
     go_ret2
     exact ⟨hbel, by rw [u1.out]; rfl⟩
    ·have b1 : ¬ (digI D[2 * q] < 0 ∨ digI D[2 * q + 1] < 0) := by omega
     have hun := HU.out
     rw [if_neg b1] at hun
     have U := Shut.mk hun
     clear hun HU b1
     obtain ⟨x, hx⟩ : ∃ x : Nat, digI D[2 * q] = x := ⟨(digI D[2 * q]).toNat, by omega⟩
     obtain ⟨y, hy⟩ : ∃ y : Nat, digI D[2 * q + 1] = y := ⟨(digI D[2 * q + 1]).toNat, by omega⟩
     rw [hx] at i1 m1 m2 U
     rw [hy] at i2 n1 n2 U
     clear hx hy m3 n3
     have x1 : x < 16 := by omega
     have y1 : y < 16 := by omega
     clear m1 m2 n1 n2
     go_wp2_with fail
     refine i1.mono ?_
     rintro e _ ⟨rfl, rfl⟩
     go_wp2_with fail
     refine i2.mono ?_
     rintro e _ ⟨rfl, rfl⟩
     clear i1 i2
     have hsz := hbel.size
     go_wp2_with (first | (at_builtin; refine wpList_append_own _ rfl _ _ 35 rfl w.heap.size 5 i0 (.int .u8 0) 1 1 Tryz.underlying35 hii hz0 hz1 hz2 rfl (by decide) _ _ _ rfl (hown.alloc _) ⟨wr.heap.size, 0, none⟩ 1 1 [.int .u8 (bits BinOp.or IntKind.i64 ((x : Int) * 16) (y : Int) % 256)] rfl rfl ?c1 ?c2 ?c3 ?c4 ?c5 ?_) | fail)
     case c1 =>
      intro j u hj
      match j, hj with
      | 0, hj => simp at hj; subst hj; simp [Addr.add]
     case c2 => intro u hu; simp at hu; subst hu; rfl
     case c3 => unfold maxLen; omega
     case c4 => omega
     case c5 => simp; omega
     intro v' w4 hown' hgrow _
     rw [orHex x y x1 y1] at hown'
     have hB4 : Below w.heap.size w w4 := (hbel.alloc hbel.size _).grown hgrow (by simp; omega) (fun g hg' => (hown.lt g hg').1)
     have R : Shut (HexRd w w4 v' D.data.toList (q + 1)) := ⟨a ++ [UInt8.ofNat (x * 16 + y)], by simp [ha], by rw [bs, List.map_append]; exact hown', hB4, by
      rw [U.out]
      cases unhex (List.drop (2 * (q + 1)) D.data.toList) <;> simp⟩
     clear hown' hgrow hown hsz hbel U hB4
     go_wp2
     go_roundw
     case rel => exact ⟨q + 1, by go_num, by omega, R⟩
     case measure => simp [intOf]; omega
  ·obtain hq2 : 2 * q = D.size := by omega
   clear hev hev'
   obtain ⟨a, ha, hown, hbel, hun⟩ := hI.out
   have hu : unhex D.data.toList = some a := by rw [hun, List.drop_eq_nil_of_le (by rw [sizeB]; omega)]; simp [unhex]
   have U := Shut.mk hu
   obtain ⟨p, cp, rfl, hlp, hq0⟩ := own_lies hown
   have hfr : ∀ b o, p = some ⟨b, o, none⟩ → w.heap.size ≤ b := fun b o e => (hown.lt b (by rw [e]; rfl)).1
   clear hq0 hI hun hu hown
   subst ha
   go_wp2
   go_ret2
   exact ⟨hbel, by rw [U.out]; exact ⟨p, cp, rfl, hlp, hfr⟩⟩

theorem bytesOf_odd (s D : ByteArray) (w : World) (hC : Calls Tryz.prog 200 #[.string s, .string ⟨#[45]⟩] w fun e w' => e = .returned (.tuple #[.string D, .bool true]) ∧ w = w') (hev : ¬ D.size % 2 = 0) (hs : D.size ≤ 60000) :
  Calls Tryz.prog 173 #[.string s] w fun e w' => Below w.heap.size w w' ∧ BytesR w.heap.size none e w' := by
 have hev' : (D.size : Int) % 2 = 1 := by omega
 go_enter Tryz.func173, Tryz.ntmps173
 go_wp2_with fail
 refine hC.mono ?_
 rintro e _ ⟨rfl, rfl⟩
 go_wp2
 go_ret2
 exact ⟨Below.refl _ _, rfl⟩

theorem bytesOf_bare (s : ByteArray) (w : World) (hC : Calls Tryz.prog 200 #[.string s, .string ⟨#[45]⟩] w fun e w' => e = .returned (.tuple #[.string s, .bool false]) ∧ w = w') :
  Calls Tryz.prog 173 #[.string s] w fun e w' => Below w.heap.size w w' ∧ BytesR w.heap.size none e w' := by
 go_enter Tryz.func173, Tryz.ntmps173
 go_wp2_with fail
 refine hC.mono ?_
 rintro e _ ⟨rfl, rfl⟩
 go_wp2
 go_ret2
 exact ⟨Below.refl _ _, rfl⟩

theorem bytesOf_any (s : ByteArray) (w : World) (hs : s.size ≤ 60000) :
  Calls Tryz.prog 173 #[.string s] w fun e w' => Below w.heap.size w w' ∧ BytesR w.heap.size (byW s.data.toList) e w' := by
 rcases dash_cases s.data.toList with ⟨h, r, hr⟩ | ⟨h, hn⟩
 ·have hd : (s.extract 1 s.size).data.toList = r := by rw [Lib.extract_to_end, hr]; rfl
  have hl : (s.extract 1 s.size).size ≤ 60000 := by
   rw [← sizeB, hd]
   have := sizeB s
   rw [hr, List.length_cons] at this
   omega
  have hb : byW s.data.toList = unhex (s.extract 1 s.size).data.toList := by rw [hd, hr]; rfl
  rw [hb]
  by_cases hev : (s.extract 1 s.size).size % 2 = 0
  ·exact bytesOf_even s _ w (cutDash_yes s w h) hev hl
  ·rw [unhex_odd _ (by rw [sizeB]; exact hev)]
   exact bytesOf_odd s _ w (cutDash_yes s w h) hev hl
 ·rw [hn]
  exact bytesOf_bare s w (cutDash_no s w h)

structure LaidN (w : World) : Prop where
 pow : Lib.TabIs Tryz.prog w "internal/strconv.uint64pow10" .u64 Lib.pow10Tab
 mx : ∃ m, w.cell? ⟨Tryz.lays143_ren.g 1, 0, none⟩ = some (.int .i64 m)
 syn : ∃ tp p, w.var? Tryz.prog "strconv.ErrSyntax" = some #[.iface tp p]
 rng : ∃ tp p, w.var? Tryz.prog "strconv.ErrRange" = some #[.iface tp p]

theorem varB {w w' : World} {n : String} {cs : Array Value} (h : w.var? Tryz.prog n = some cs) (hb : Below w.heap.size w w') : w'.var? Tryz.prog n = some cs := by
 unfold World.var? at *
 cases hg : Tryz.prog.globalNamed n with
 | none => rw [hg] at h; simp at h
 | some g =>
  rw [hg] at h
  simp only [Option.bind_some] at *
  cases hw : w.heap[g]? with
  | none => rw [hw] at h; simp at h
  | some o => rw [hw] at h; rw [blkB hw hb]; exact h

theorem LaidN.below {w w' : World} (h : LaidN w) (hb : Below w.heap.size w w') : LaidN w' := by
 obtain ⟨h1, ⟨m, h2⟩, ⟨t3, p3, h3⟩, ⟨t4, p4, h4⟩⟩ := h
 exact ⟨varB h1 hb, ⟨m, cellW h2 hb⟩, ⟨t3, p3, varB h3 hb⟩, ⟨t4, p4, varB h4 hb⟩⟩

theorem itoa_any (n : Int) (w : World) (hn : I64 n) (hL : LaidN w) :
  Calls Tryz.prog 79 #[.int .i64 n] w fun e w' => e = .returned (.string ⟨(Lib.itoa n).toArray⟩) ∧ Below w.heap.size w w' := by
 refine (Tryz.strconv_Itoa n hn.1 hn.2 w hL.pow).mono ?_
 rintro e w' ⟨rfl, k, os, rfl⟩
 exact ⟨rfl, Lib.below_grow _ _ (Nat.le_refl _) k os⟩

theorem atoi_good (s : ByteArray) (w : World) (v : Int) (hs : s.size ≤ 60000) (h : Lib.atoiAll s.data.toList = .ok v) :
  Calls Tryz.prog 172 #[.string s] w fun e w' => e = .returned (.tuple #[.int .i64 v, .nilIface]) ∧ Below w.heap.size w w' := by
 refine (Tryz.strconv_Atoi_ok s (by omega) v h w).mono ?_
 rintro e w' ⟨rfl, rfl | ⟨t, rfl⟩⟩
 ·exact ⟨rfl, Below.refl _ _⟩
 ·exact ⟨rfl, Joins.below_bytesWorld _ _ _ _ (Nat.le_refl _)⟩

theorem atoi_bad (s : ByteArray) (w : World) (hs : s.size ≤ 60000) (h : ∀ v, Lib.atoiAll s.data.toList ≠ .ok v) (hL : LaidN w) :
  Calls Tryz.prog 172 #[.string s] w fun e w' => ∃ v te pe, e = .returned (.tuple #[.int .i64 v, .iface te pe]) ∧ Below w.heap.size w w' := by
 cases ha : Lib.atoiAll s.data.toList with
 | ok v => exact absurd ha (h v)
 | «syntax» =>
  obtain ⟨tp, p, hv⟩ := hL.syn
  refine (Tryz.strconv_Atoi_syntax_var s (by omega) ha tp p w hv).mono ?_
  rintro e w' ⟨N, rfl, _, _, hb⟩
  exact ⟨_, _, _, rfl, hb⟩
 | range =>
  obtain ⟨tp, p, hv⟩ := hL.rng
  refine (Tryz.strconv_Atoi_range_var s (by omega) ha tp p w hv).mono ?_
  rintro e w' ⟨N, rfl, _, _, hb⟩
  exact ⟨_, _, _, rfl, hb⟩

theorem wordsL_short : ∀ (s : List UInt8), ∀ x ∈ wordsL s, x.length ≤ s.length
 | [], x, h => by simp [wordsL] at h; subst h; simp
 | c :: r, x, h => by
  have ih := wordsL_short r
  simp only [wordsL] at h
  split at h
  ·rcases List.mem_cons.1 h with rfl | h
   ·simp
   ·have := ih x h; simp; omega
  ·cases hw : wordsL r with
   | nil => exact absurd hw (wordsL_ne r)
   | cons y ys =>
    rw [hw] at h ih
    rcases List.mem_cons.1 h with rfl | h
    ·have := ih y (by simp); simp; omega
    ·have := ih x (List.mem_cons_of_mem _ h); simp; omega

theorem split_any (s : ByteArray) (w : World) (hs : s.size ≤ 60000) (hL : LaidN w) :
  Calls Tryz.prog 171 #[.string s, .string ⟨#[32]⟩] w fun e w' => ∃ ws : List ByteArray, e = .returned (.slice (some ⟨w.heap.size, 0, none⟩) ws.length ws.length) ∧ Lies w' (some ⟨w.heap.size, 0, none⟩) (ws.map Value.string) ∧ Below w.heap.size w w' ∧ ws.map (·.data.toList) = wordsL s.data.toList := by
 obtain ⟨m, hm⟩ := hL.mx
 refine (Tryz.strings_Split s ⟨#[32]⟩ m w (by omega) hm (by decide)).mono ?_
 rintro e w' ⟨rfl, rfl⟩
 have hw : (Lib.splitB ⟨#[32]⟩ 0 (Lib.countB s ⟨#[32]⟩) s).map (·.data.toList) = wordsL s.data.toList := by
  rw [Lib.splitB_data]
  exact split_words _ _ rfl
 have hl := Lib.splitB_all ⟨#[32]⟩ (by decide) 0 _ s rfl
 refine ⟨_, by rw [hl], ?_, (Below.refl _ _).alloc (Nat.le_refl _) _, hw⟩
 have := Lies.alloc_new w ((Lib.splitB ⟨#[32]⟩ 0 (Lib.countB s ⟨#[32]⟩) s).map Value.string).toArray 9
 simpa using this

def ns (l : List Int) : List Value := l.map fun n => Value.int .i64 n

theorem numbersOf_any (r : Rc) (da : Option Addr) (dc : Nat) (ca : Option Addr) (cc : Nat) (w : World) :
  Calls Tryz.prog 78 #[rcV r da dc ca cc] w fun e w' => e = .returned (.agg (ns r.nums).toArray) ∧ Below w.heap.size w w' := by
 obtain ⟨k, p, n, y, ⟨F, Q, T, L, B, K⟩, id, d, c⟩ := r
 simp only [rcV]
 go_enter Tryz.func78, Tryz.ntmps78
 go_wp2
 refine bodyPost_ret (v := .agg #[.int .i64 k, .int .i64 p, .int .i64 n, .int .i64 y, .int .i64 F, .int .i64 Q, .int .i64 T, .int .i64 L, .int .i64 B, .int .i64 K, .int .i64 id]) (by simp [results, Tryz.results78, go_sem]) rfl ?_
 exact ⟨rfl, (((Below.refl _ _).alloc (Nat.le_refl _) _).alloc (by simp) _).alloc (by simp; omega) _⟩

theorem recordOf_any (l : List Int) (hl : l.length = 11) (d c : List UInt8) (da : Option Addr) (dc : Nat) (ca : Option Addr) (cc : Nat) (w : World) :
  Calls Tryz.prog 174 #[.agg (ns l).toArray, .slice da d.length dc, .slice ca c.length cc] w fun e w' => e = .returned (rcV (recOf l d c) da dc ca cc) ∧ Below w.heap.size w w' := by
 match l, hl with
 | [n0, n1, n2, n3, n4, n5, n6, n7, n8, n9, n10], _ =>
  simp only [rcV, recOf, ns, List.map_cons, List.map_nil]
  go_enter Tryz.func174, Tryz.ntmps174
  go_wp2
  refine bodyPost_ret (v := .agg #[.int .i64 n0, .int .i64 n1, .int .i64 n2, .int .i64 n3, .int .i64 n4, .int .i64 n5, .int .i64 n6, .int .i64 n7, .int .i64 n8, .int .i64 n9, .int .i64 n10, .slice da d.length dc, .slice ca c.length cc]) (by simp [results, Tryz.results174, go_sem]) rfl ?_
  exact ⟨rfl, ((Below.refl _ _).alloc (Nat.le_refl _) _).alloc (by simp) _⟩

end Go.Proofs.YtakkajjoeimkdaaGreatDoor
