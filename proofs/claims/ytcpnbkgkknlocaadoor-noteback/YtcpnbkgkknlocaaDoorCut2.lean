/-
  cut.Cut: its contract.
-/
import Derived.Test.YtcpnbkgkknlocaaDoorSum2
import Derived.Test.YtcpnbkgkknlocaaDoorCut1
import Derived.Laws.CopyOwn
namespace Go.Proofs.YtcpnbkgkknlocaaDoor
open Go.RowKit
set_option linter.unusedVariables false
set_option linter.unusedSimpArgs false

theorem Lies.takeB {w : World} {a : Option Addr} {l : List UInt8} (h : Lies w a (bs l)) (q : Nat) : Lies w a (bs (l.take q)) := by
  intro k u hu
  refine h k u ?_
  simp only [bs, List.map_take, List.getElem?_take] at hu ⊢
  split at hu
  · exact hu
  · cases hu

theorem Lies.takeV {w : World} {a : Option Addr} {l : List Value} (h : Lies w a l) (q : Nat) : Lies w a (l.take q) := by
  intro k u hu
  refine h k u ?_
  rw [List.getElem?_take] at hu
  split at hu
  · exact hu
  · cases hu

/-- the plan's box -/
def Boxed (w : World) (g : Nat) (B K : Int) : Prop := w.cell? ⟨g, 0, none⟩ = some (.int .i64 B) ∧ w.cell? ⟨g, 1, none⟩ = some (.int .i64 K)

theorem Boxed.mk (w : World) (B K : Int) (t : TypeId) : Boxed (w.alloc (.cells #[.int .i64 B, .int .i64 K] t)) w.heap.size B K := by
  have h := Lies.alloc_new w #[.int .i64 B, .int .i64 K] t
  exact ⟨h.at (k := 0) rfl, h.at (k := 1) rfl⟩

theorem Boxed.below {w w1 : World} {g : Nat} {B K : Int} (h : Boxed w g B K) (hb : Below w.heap.size w w1) : Boxed w1 g B K := by
  have h1 := World.block_lt_of_cell? w _ h.1
  simp at h1
  exact ⟨by rw [(bcell hb).1 g 0 h1]; exact h.1, by rw [(bcell hb).1 g 1 h1]; exact h.2⟩

theorem cutCode_chk {B K : Int} {c : List UInt8} (h : chkP B K ≠ 0) : cutCode B K c = chkP B K := by simp [cutCode, h]

/-- the row of blocks after i rounds: i of them laid behind g -/
def rowAt (g k i : Nat) (j : Nat) : Value := if j < i then .slice (some ⟨g + 1 + j, 0, none⟩) k k else .slice none 0 0

def CutInv (w wr : World) (g0 g n k nb : Nat) (c : List UInt8) (i : Nat) : Prop :=
  wr.heap.size = g + 1 + i ∧ wr.rowIs g 27 nb (rowAt g k i) ∧ (∀ j, j < i → wr.rowIs (g + 1 + j) 5 k (u8at (piece k j c))) ∧ Boxed wr g0 n k ∧ Below w.heap.size w wr

theorem CutInv.start {w w2 : World} {g0 n k nb : Nat} {c : List UInt8} (hx : Boxed w2 g0 n k) (hb : Below w.heap.size w w2) :
    CutInv w (w2.alloc (.cells (madeCells #[.slice none 0 0] nb) 27)) g0 w2.heap.size n k nb c 0 := by
  refine ⟨by simp, (World.rowIs_made w2 _ nb _).congr fun i hi => by simp [rowAt], fun j hj => by omega, hx.below ((Below.refl _ _).alloc (Nat.le_refl _) _), hb.alloc hb.size _⟩

/-- copy into a row that is known whole, as one step of a region that draws its order: the world behind it is named -/
theorem step_copy_row {P : Program} {ops : Array Oper} {o : Oper} {a : Act} {w : World} {K : Act → World → Prop} {Q : Exit → Act → World → Prop} {E : Prop} (hgd : o.guard = none) (d s : Operand) (dT sT : TypeId)
    (ho : o.op = .call { callee := .builtin .copy, args := #[d, s], argTypes := #[dT, sT] }) (elem : TypeId) (hu : P.underlying dT = some (.slice elem)) (hsz : (P.info? elem).map (·.size) = some 1)
    (g off dLen dCap : Nat) (ad : Addr) (sLen sCap : Nat) (hd : a.eval d = .slice (some ⟨g, off, none⟩) dLen dCap) (hs : a.eval s = .slice (some ad) sLen sCap)
    (cur cs : List Value) (t : TypeId) (hg : w.heap[g]? = some (.cells cur.toArray t (0, 0))) (hn : cs.length = Nat.min sLen dLen)
    (hsrc : ∀ j v, cs[j]? = some v → w.cell? (ad.add j) = some v) (hfit : off + cs.length ≤ cur.length) (h1 : ∀ v ∈ cs, v.oneCell' = true)
    (h : K (a.put o.dst (goInt cs.length)) (w.setRow g (splice cur off cs).toArray)) :
    if Region.wanted o (yielded ops a.tmps) = true then Oper.wp P o a w K Q else E := by
  have hw : Region.wanted o (yielded ops a.tmps) = true := by simp [Region.wanted, hgd]
  rw [if_pos hw]
  have hrun := run_copy_row P w dT sT o.type elem g off dLen dCap ad sLen sCap cur.toArray t cs hu hsz hg hn hsrc (by simpa using hfit) h1
  unfold Oper.wp
  simp [execOp, ho, resolve, invoke, builtin, hd, hs, hrun, Result.andThen]
  simp only [splice] at h
  exact h

/-- between the store and the copy -/
def CutMid (w w3 : World) (g0 g n k nb : Nat) (c : List UInt8) (m : Nat) : Prop :=
  w3.heap.size = g + 1 + (m + 1) ∧ w3.rowIs g 27 nb (rowAt g k (m + 1)) ∧ (∀ j, j < m → w3.rowIs (g + 1 + j) 5 k (u8at (piece k j c))) ∧ Boxed w3 g0 n k ∧ Below w.heap.size w w3 ∧
    w3.heap[g + 1 + m]? = some (.cells (List.replicate k (Value.int .u8 0)).toArray 5 (0, 0))

theorem Boxed.setOther {w : World} {g b o : Nat} {B K : Int} {v : Value} (h : Boxed w g B K) (hne : g ≠ b) : Boxed (w.setCell ⟨b, o, none⟩ v) g B K :=
  ⟨by rw [World.cell?_setCell_other _ _ _ _ (by intro e; cases e; exact hne rfl)]; exact h.1, by rw [World.cell?_setCell_other _ _ _ _ (by intro e; cases e; exact hne rfl)]; exact h.2⟩

theorem CutInv.mid {w wr : World} {g0 g n k nb m : Nat} {c : List UInt8} (hI : CutInv w wr g0 g n k nb c m) (hlt : m < nb) (hgg : g0 < g) (hw : w.heap.size ≤ g0) :
    CutMid w ((wr.setCell ⟨g, m, none⟩ (.slice (some ⟨wr.heap.size, 0, none⟩) k k)).alloc (.cells (madeCells #[.int .u8 0] k) 5)) g0 g n k nb c m := by
  obtain ⟨i1, i2, i3, i4, i5⟩ := hI
  refine ⟨by simp; omega, ?_, ?_, ?_, ?_, ?_⟩
  · refine ((i2.set m _).alloc _).congr fun j hj => ?_
    rw [i1]
    simp only [rowAt]
    by_cases e : j = m
    · subst e; simp
    · rw [if_neg e]
      by_cases h : j < m
      · rw [if_pos h, if_pos (by omega)]
      · rw [if_neg h, if_neg (by omega)]
  · exact fun j hj => ((i3 j hj).setOther (by simp; omega) _).alloc _
  · exact (i4.setOther (by omega)).below ((Below.refl _ _).alloc (Nat.le_refl _) _)
  · exact (i5.setCell (by simp; omega) _).alloc (by simp; omega) _
  · rw [heap_alloc_eq, if_pos (by simp; omega)]
    congr 2
    apply Array.ext'
    rw [toList_madeCells_one]

theorem sizeU8 : (Tryd.prog.info? 5).map (·.size) = some 1 := by kernel_rfl

theorem bs_one {cs : List Value} {l : List UInt8} (h : Hid (cs = bs l)) : ∀ v ∈ cs, v.oneCell' = true := by
  rw [h.out]
  intro v hv
  obtain ⟨x, _, rfl⟩ := List.mem_map.1 hv
  rfl

theorem copy_len {cs : List Value} {c : List UInt8} {m k n p : Nat} (h : Hid (cs = bs ((c.drop (m * k)).take k))) (hp : Hid (p = m * k)) (hl : Hid (c.length = n)) : cs.length = Nat.min (n - p) k := by
  rw [h.out, hp.out, bs_length, List.length_take, List.length_drop, hl.out]
  exact Nat.min_comm _ _

theorem copy_fit {cs : List Value} {k q : Nat} (h : Hid (cs.length = Nat.min q k)) : 0 + cs.length ≤ (List.replicate k (Value.int .u8 0)).length := by
  rw [h.out, List.length_replicate]
  have : Nat.min q k ≤ k := Nat.min_le_right _ _
  omega

theorem copy_src {cs : List Value} {c : List UInt8} {m k p ab ao : Nat} {w : World} (h : Hid (cs = bs ((c.drop (m * k)).take k))) (hp : Hid (p = m * k)) (hl : Lies w (some ⟨ab, ao, none⟩) (bs c)) :
    ∀ j v, cs[j]? = some v → w.cell? ((⟨ab, ao + p, none⟩ : Addr).add j) = some v := by
  intro j v hj
  rw [h.out] at hj
  have hj' : (bs c)[p + j]? = some v := by
    rw [hp.out]
    simp only [bs, List.map_take, List.map_drop, List.getElem?_take, List.getElem?_drop] at hj ⊢
    split at hj
    · exact hj
    · cases hj
  have := hl.at hj'
  simpa [Addr.add_lit, Nat.add_assoc] using this

theorem CutMid.drew {w w3 : World} {g0 g n k nb m : Nat} {c : List UInt8} (h : CutMid w w3 g0 g n k nb c m) : CutMid w w3.drew g0 g n k nb c m :=
  ⟨h.1, h.2.1, h.2.2.1, h.2.2.2.1, h.2.2.2.2.1.drew, h.2.2.2.2.2⟩

theorem rowIs_setRow {w : World} {g n : Nat} {t : TypeId} {old : Array Value} {cs : List Value} {f : Nat → Value} (hg : w.heap[g]? = some (.cells old t (0, 0))) (hn : cs.length = n) (hf : ∀ i (hi : i < cs.length), cs[i] = f i) : (w.setRow g cs.toArray).rowIs g t n f := by
  refine ⟨cs.toArray, setRow_heap w g old cs.toArray t _ hg, by simpa using hn, fun i hi => ?_⟩
  have hi' : i < cs.length := by omega
  simp [hi', hf i hi']

theorem splice_piece {c : List UInt8} {cs : List Value} {m k : Nat} (HCS : Hid (cs = bs ((c.drop (m * k)).take k))) : (splice (List.replicate k (Value.int .u8 0)) 0 cs).length = k ∧ ∀ i (hi : i < (splice (List.replicate k (Value.int .u8 0)) 0 cs).length), (splice (List.replicate k (Value.int .u8 0)) 0 cs)[i] = u8at (piece k m c) i := by
  have hcl : cs.length = min k (c.length - m * k) := by rw [HCS.out, bs_length]; simp
  have hl : (splice (List.replicate k (Value.int .u8 0)) 0 cs).length = k := by
    rw [length_splice _ _ _ (by simp; omega)]; simp
  refine ⟨hl, fun i hi => ?_⟩
  have hik : i < k := by omega
  apply Option.some.inj
  rw [← List.getElem?_eq_getElem hi, u8at, piece_get c hik]
  unfold splice
  rw [List.take_zero, List.nil_append, List.getElem?_append]
  by_cases h : i < cs.length
  · rw [if_pos h, HCS.out]
    have h2 : m * k + i < c.length := by omega
    simp [bs, hik, h2]
  · rw [if_neg h]
    have h2 : c[m * k + i]? = none := List.getElem?_eq_none (by omega)
    rw [h2, List.getElem?_drop, List.getElem?_replicate, if_pos (by omega)]
    rfl

theorem CutMid.next {w w3 : World} {g0 g n k nb m : Nat} {c : List UInt8} {cs : List Value} (h : CutMid w w3 g0 g n k nb c m) (hgg : g0 < g) (hw : w.heap.size ≤ g0) (HL : Hid (c.length = n))
    (HCS : Hid (cs = bs ((c.drop (m * k)).take k))) : CutInv w (w3.setRow (g + 1 + m) (splice (List.replicate k (Value.int .u8 0)) 0 cs).toArray) g0 g n k nb c (m + 1) := by
  obtain ⟨i1, i2, i3, i4, i5, i6⟩ := h
  obtain ⟨s1, s2⟩ := splice_piece HCS
  refine ⟨by rw [setRow_size]; exact i1, i2.of_block (setRow_other _ _ _ _ (by omega)), fun j hj => ?_, ?_, below_setRow i5 (by omega) _⟩
  · by_cases e : j = m
    · subst e
      exact rowIs_setRow i6 s1 s2
    · exact (i3 j (by omega)).of_block (setRow_other _ _ _ _ (by omega))
  · exact ⟨by rw [cell_setRow_other _ _ _ _ (by simp; omega)]; exact i4.1, by rw [cell_setRow_other _ _ _ _ (by simp; omega)]; exact i4.2⟩

def cutBl (g nb k : Nat) (c : List UInt8) : List Blk := (List.range nb).map fun j => ⟨some ⟨g + 1 + j, 0, none⟩, k, piece k j c⟩

theorem cutBl_val (g nb k : Nat) (c : List UInt8) : (cutBl g nb k c).map Blk.val = (List.range nb).map (rowAt g k nb) := by
  unfold cutBl
  rw [List.map_map]
  apply List.map_congr_left
  intro j hj
  have hj : j < nb := by simpa using hj
  simp [Blk.val, rowAt, hj, piece_length]

theorem cutBl_l (g nb k : Nat) (c : List UInt8) : (cutBl g nb k c).map Blk.l = cutL nb k c := by simp [cutBl, cutL]

end Go.Proofs.YtcpnbkgkknlocaaDoor
