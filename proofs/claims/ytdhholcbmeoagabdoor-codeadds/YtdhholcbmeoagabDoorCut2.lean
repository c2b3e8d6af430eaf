/-
  cut.Cut: its contract.
-/
import Derived.Test.YtdhholcbmeoagabDoorSum2
import Derived.Test.YtdhholcbmeoagabDoorCut1
import Derived.Laws.CopyOwn
namespace Go.Proofs.YtdhholcbmeoagabDoor
open Go.RowKit
set_option linter.unusedVariables false
set_option linter.unusedSimpArgs false

theorem Lies.takeB {w : World} {a : Option Addr} {l : List UInt8} (h : Lies w a (bs l)) (q : Nat) : Lies w a (bs (l.take q)) := by
  intro k u hu
  refine h k u ?_
  simp only [bs, List.map_take, List.getElem?_take] at hu ⊢
  split at hu
  · exact hu
  · cases hu

theorem Lies.takeV {w : World} {a : Option Addr} {l : List Value} (h : Lies w a l) (q : Nat) : Lies w a (l.take q) := by
  intro k u hu
  refine h k u ?_
  rw [List.getElem?_take] at hu
  split at hu
  · exact hu
  · cases hu

/-- the plan's box -/
def Boxed (w : World) (g : Nat) (B K : Int) : Prop := w.cell? ⟨g, 0, none⟩ = some (.int .i64 B) ∧ w.cell? ⟨g, 1, none⟩ = some (.int .i64 K)

theorem Boxed.mk (w : World) (B K : Int) (t : TypeId) : Boxed (w.alloc (.cells #[.int .i64 B, .int .i64 K] t)) w.heap.size B K := by
  have h := Lies.alloc_new w #[.int .i64 B, .int .i64 K] t
  exact ⟨h.at (k := 0) rfl, h.at (k := 1) rfl⟩

theorem Boxed.below {w w1 : World} {g : Nat} {B K : Int} (h : Boxed w g B K) (hb : Below w.heap.size w w1) : Boxed w1 g B K := by
  have h1 := World.block_lt_of_cell? w _ h.1
  simp at h1
  exact ⟨by rw [(bcell hb).1 g 0 h1]; exact h.1, by rw [(bcell hb).1 g 1 h1]; exact h.2⟩

theorem cutCode_chk {B K : Int} {c : List UInt8} (h : chkP B K ≠ 0) : cutCode B K c = chkP B K := by simp [cutCode, h]

set_option maxHeartbeats 400000 in
/-- cut.Cut where something is wrong -/
theorem cut_bad (B K : Int) (a : Option Addr) (cap : Nat) (c : List UInt8) (w : World) (hB : I64 B) (hK : I64 K) (hn : c.length ≤ maxLen) (hbad : cutCode B K c ≠ 0) :
    Calls Tryd.prog 26 #[.agg #[.int .i64 B, .int .i64 K], .slice a c.length cap] w fun e w' => e = .returned (.tuple #[.slice none 0 0, .int .i64 (cutCode B K c)]) ∧ Below w.heap.size w w' := by
  unfold maxLen at hn
  by_cases hc : chkP B K = 0
  · have hne : ((c.length : Int) != B) = true := by
      simp [cutCode, hc] at hbad
      simpa using hbad
    have HA : Hid (cutCode B K c = 4) := by
      show cutCode B K c = 4
      simp [cutCode, hc]
      simpa using hne
    clear hbad
    go_enter Tryd.func26, Tryd.ntmps26
    go_wp2_with fail
    refine (cutCheck_any B K _ hB hK).mono ?_
    rintro e w1 ⟨rfl, hb⟩
    obtain ⟨x0, x1⟩ := (Boxed.mk w B K 34).below hb
    have hb := boxBelow hb
    rw [hc]
    go_wp2
    go_ret2
    exact ⟨ret2 rfl (congrArg (Value.int .i64) HA.out.symm), hb⟩
  · have hc' : (chkP B K != 0) = true := by simpa using hc
    have HA : Hid (cutCode B K c = chkP B K) := cutCode_chk hc
    clear hc hbad
    go_enter Tryd.func26, Tryd.ntmps26
    go_wp2_with fail
    refine (cutCheck_any B K _ hB hK).mono ?_
    rintro e w1 ⟨rfl, hb⟩
    have hb := boxBelow hb
    go_wp2
    go_ret2
    exact ⟨ret2 rfl (congrArg (Value.int .i64) HA.out.symm), hb⟩

/-- the row of blocks after i rounds: i of them laid behind g -/
def rowAt (g k i : Nat) (j : Nat) : Value := if j < i then .slice (some ⟨g + 1 + j, 0, none⟩) k k else .slice none 0 0

def CutInv (w wr : World) (g0 g n k nb : Nat) (c : List UInt8) (i : Nat) : Prop :=
  wr.heap.size = g + 1 + i ∧ wr.rowIs g 36 nb (rowAt g k i) ∧ (∀ j, j < i → wr.rowIs (g + 1 + j) 5 k (u8at (piece k j c))) ∧ Boxed wr g0 n k ∧ Below w.heap.size w wr

theorem CutInv.start {w w2 : World} {g0 n k nb : Nat} {c : List UInt8} (hx : Boxed w2 g0 n k) (hb : Below w.heap.size w w2) :
    CutInv w (w2.alloc (.cells (madeCells #[.slice none 0 0] nb) 36)) g0 w2.heap.size n k nb c 0 := by
  refine ⟨by simp, (World.rowIs_made w2 _ nb _).congr fun i hi => by simp [rowAt], fun j hj => by omega, hx.below ((Below.refl _ _).alloc (Nat.le_refl _) _), hb.alloc hb.size _⟩

/-- copy into a row that is known whole, as one step of a region that draws its order: the world behind it is named -/
theorem step_copy_row {P : Program} {ops : Array Oper} {o : Oper} {a : Act} {w : World} {K : Act → World → Prop} {Q : Exit → Act → World → Prop} {E : Prop} (hgd : o.guard = none) (d s : Operand) (dT sT : TypeId)
    (ho : o.op = .call { callee := .builtin .copy, args := #[d, s], argTypes := #[dT, sT] }) (elem : TypeId) (hu : P.underlying dT = some (.slice elem)) (hsz : (P.info? elem).map (·.size) = some 1)
    (g off dLen dCap : Nat) (ad : Addr) (sLen sCap : Nat) (hd : a.eval d = .slice (some ⟨g, off, none⟩) dLen dCap) (hs : a.eval s = .slice (some ad) sLen sCap)
    (cur cs : List Value) (t : TypeId) (hg : w.heap[g]? = some (.cells cur.toArray t (0, 0))) (hn : cs.length = Nat.min sLen dLen)
    (hsrc : ∀ j v, cs[j]? = some v → w.cell? (ad.add j) = some v) (hfit : off + cs.length ≤ cur.length) (h1 : ∀ v ∈ cs, v.oneCell' = true)
    (h : K (a.put o.dst (goInt cs.length)) (w.setRow g (splice cur off cs).toArray)) :
    if Region.wanted o (yielded ops a.tmps) = true then Oper.wp P o a w K Q else E := by
  have hw : Region.wanted o (yielded ops a.tmps) = true := by simp [Region.wanted, hgd]
  rw [if_pos hw]
  have hrun := run_copy_row P w dT sT o.type elem g off dLen dCap ad sLen sCap cur.toArray t cs hu hsz hg hn hsrc (by simpa using hfit) h1
  unfold Oper.wp
  simp [execOp, ho, resolve, invoke, builtin, hd, hs, hrun, Result.andThen]
  simp only [splice] at h
  exact h

/-- between the store and the copy -/
def CutMid (w w3 : World) (g0 g n k nb : Nat) (c : List UInt8) (m : Nat) : Prop :=
  w3.heap.size = g + 1 + (m + 1) ∧ w3.rowIs g 36 nb (rowAt g k (m + 1)) ∧ (∀ j, j < m → w3.rowIs (g + 1 + j) 5 k (u8at (piece k j c))) ∧ Boxed w3 g0 n k ∧ Below w.heap.size w w3 ∧
    w3.heap[g + 1 + m]? = some (.cells (List.replicate k (Value.int .u8 0)).toArray 5 (0, 0))

theorem Boxed.setOther {w : World} {g b o : Nat} {B K : Int} {v : Value} (h : Boxed w g B K) (hne : g ≠ b) : Boxed (w.setCell ⟨b, o, none⟩ v) g B K :=
  ⟨by rw [World.cell?_setCell_other _ _ _ _ (by intro e; cases e; exact hne rfl)]; exact h.1, by rw [World.cell?_setCell_other _ _ _ _ (by intro e; cases e; exact hne rfl)]; exact h.2⟩

theorem CutInv.mid {w wr : World} {g0 g n k nb m : Nat} {c : List UInt8} (hI : CutInv w wr g0 g n k nb c m) (hlt : m < nb) (hgg : g0 < g) (hw : w.heap.size ≤ g0) :
    CutMid w ((wr.setCell ⟨g, m, none⟩ (.slice (some ⟨wr.heap.size, 0, none⟩) k k)).alloc (.cells (madeCells #[.int .u8 0] k) 5)) g0 g n k nb c m := by
  obtain ⟨i1, i2, i3, i4, i5⟩ := hI
  refine ⟨by simp; omega, ?_, ?_, ?_, ?_, ?_⟩
  · refine ((i2.set m _).alloc _).congr fun j hj => ?_
    rw [i1]
    simp only [rowAt]
    by_cases e : j = m
    · subst e; simp
    · rw [if_neg e]
      by_cases h : j < m
      · rw [if_pos h, if_pos (by omega)]
      · rw [if_neg h, if_neg (by omega)]
  · exact fun j hj => ((i3 j hj).setOther (by simp; omega) _).alloc _
  · exact (i4.setOther (by omega)).below ((Below.refl _ _).alloc (Nat.le_refl _) _)
  · exact (i5.setCell (by simp; omega) _).alloc (by simp; omega) _
  · rw [heap_alloc_eq, if_pos (by simp; omega)]
    congr 2
    apply Array.ext'
    rw [toList_madeCells_one]

theorem sizeU8 : (Tryd.prog.info? 5).map (·.size) = some 1 := by kernel_rfl

theorem bs_one {cs : List Value} {l : List UInt8} (h : Hid (cs = bs l)) : ∀ v ∈ cs, v.oneCell' = true := by
  rw [h.out]
  intro v hv
  obtain ⟨x, _, rfl⟩ := List.mem_map.1 hv
  rfl

theorem copy_len {cs : List Value} {c : List UInt8} {m k n p : Nat} (h : Hid (cs = bs ((c.drop (m * k)).take k))) (hp : Hid (p = m * k)) (hl : Hid (c.length = n)) : cs.length = Nat.min (n - p) k := by
  rw [h.out, hp.out, bs_length, List.length_take, List.length_drop, hl.out]
  exact Nat.min_comm _ _

theorem copy_fit {cs : List Value} {k q : Nat} (h : Hid (cs.length = Nat.min q k)) : 0 + cs.length ≤ (List.replicate k (Value.int .u8 0)).length := by
  rw [h.out, List.length_replicate]
  have : Nat.min q k ≤ k := Nat.min_le_right _ _
  omega

theorem copy_src {cs : List Value} {c : List UInt8} {m k p ab ao : Nat} {w : World} (h : Hid (cs = bs ((c.drop (m * k)).take k))) (hp : Hid (p = m * k)) (hl : Lies w (some ⟨ab, ao, none⟩) (bs c)) :
    ∀ j v, cs[j]? = some v → w.cell? ((⟨ab, ao + p, none⟩ : Addr).add j) = some v := by
  intro j v hj
  rw [h.out] at hj
  have hj' : (bs c)[p + j]? = some v := by
    rw [hp.out]
    simp only [bs, List.map_take, List.map_drop, List.getElem?_take, List.getElem?_drop] at hj ⊢
    split at hj
    · exact hj
    · cases hj
  have := hl.at hj'
  simpa [Addr.add_lit, Nat.add_assoc] using this

theorem CutMid.drew {w w3 : World} {g0 g n k nb m : Nat} {c : List UInt8} (h : CutMid w w3 g0 g n k nb c m) : CutMid w w3.drew g0 g n k nb c m :=
  ⟨h.1, h.2.1, h.2.2.1, h.2.2.2.1, h.2.2.2.2.1.drew, h.2.2.2.2.2⟩

theorem rowIs_setRow {w : World} {g n : Nat} {t : TypeId} {old : Array Value} {cs : List Value} {f : Nat → Value} (hg : w.heap[g]? = some (.cells old t (0, 0))) (hn : cs.length = n) (hf : ∀ i (hi : i < cs.length), cs[i] = f i) : (w.setRow g cs.toArray).rowIs g t n f := by
  refine ⟨cs.toArray, setRow_heap w g old cs.toArray t _ hg, by simpa using hn, fun i hi => ?_⟩
  have hi' : i < cs.length := by omega
  simp [hi', hf i hi']

theorem splice_piece {c : List UInt8} {cs : List Value} {m k : Nat} (HCS : Hid (cs = bs ((c.drop (m * k)).take k))) : (splice (List.replicate k (Value.int .u8 0)) 0 cs).length = k ∧ ∀ i (hi : i < (splice (List.replicate k (Value.int .u8 0)) 0 cs).length), (splice (List.replicate k (Value.int .u8 0)) 0 cs)[i] = u8at (piece k m c) i := by
  have hcl : cs.length = min k (c.length - m * k) := by rw [HCS.out, bs_length]; simp
  have hl : (splice (List.replicate k (Value.int .u8 0)) 0 cs).length = k := by
    rw [length_splice _ _ _ (by simp; omega)]; simp
  refine ⟨hl, fun i hi => ?_⟩
  have hik : i < k := by omega
  apply Option.some.inj
  rw [← List.getElem?_eq_getElem hi, u8at, piece_get c hik]
  unfold splice
  rw [List.take_zero, List.nil_append, List.getElem?_append]
  by_cases h : i < cs.length
  · rw [if_pos h, HCS.out]
    have h2 : m * k + i < c.length := by omega
    simp [bs, hik, h2]
  · rw [if_neg h]
    have h2 : c[m * k + i]? = none := List.getElem?_eq_none (by omega)
    rw [h2, List.getElem?_drop, List.getElem?_replicate, if_pos (by omega)]
    rfl

theorem CutMid.next {w w3 : World} {g0 g n k nb m : Nat} {c : List UInt8} {cs : List Value} (h : CutMid w w3 g0 g n k nb c m) (hgg : g0 < g) (hw : w.heap.size ≤ g0) (HL : Hid (c.length = n))
    (HCS : Hid (cs = bs ((c.drop (m * k)).take k))) : CutInv w (w3.setRow (g + 1 + m) (splice (List.replicate k (Value.int .u8 0)) 0 cs).toArray) g0 g n k nb c (m + 1) := by
  obtain ⟨i1, i2, i3, i4, i5, i6⟩ := h
  obtain ⟨s1, s2⟩ := splice_piece HCS
  refine ⟨by rw [setRow_size]; exact i1, i2.of_block (setRow_other _ _ _ _ (by omega)), fun j hj => ?_, ?_, below_setRow i5 (by omega) _⟩
  · by_cases e : j = m
    · subst e
      exact rowIs_setRow i6 s1 s2
    · exact (i3 j (by omega)).of_block (setRow_other _ _ _ _ (by omega))
  · exact ⟨by rw [cell_setRow_other _ _ _ _ (by simp; omega)]; exact i4.1, by rw [cell_setRow_other _ _ _ _ (by simp; omega)]; exact i4.2⟩

set_option maxHeartbeats 1000000 in
/-- cut.Cut where all is right -/
theorem cut_good (B K : Int) (n k nb : Nat) (a : Option Addr) (cap : Nat) (c : List UInt8) (w : World) (hg : Good B K n k nb) (hl : c.length = n) (hcap : n ≤ cap) (ha : Lies w a (bs c)) :
    Calls Tryd.prog 26 #[.agg #[.int .i64 B, .int .i64 K], .slice a n cap] w fun e w' => ∃ g, e = .returned (.tuple #[.slice (some ⟨g, 0, none⟩) nb nb, .int .i64 0]) ∧ w.heap.size ≤ g ∧ w'.rowIs g 36 nb (rowAt g k nb) ∧
      (∀ j, j < nb → w'.rowIs (g + 1 + j) 5 k (u8at (piece k j c))) ∧ Below w.heap.size w w' := by
  obtain ⟨rfl, rfl, n1, n2, k1, k2, eN, b1, b2, lo, hi⟩ := hg
  have hB : I64 n := ⟨by omega, by omega⟩
  have hK : I64 k := ⟨by omega, by omega⟩
  have hc : chkP n k = 0 := chkP_good ⟨rfl, rfl, n1, n2, k1, k2, eN, b1, b2, lo, hi⟩
  have HL : Hid (c.length = n) := hl
  have HC : Hid (chkP n k = 0) := hc
  have HN : Hid (nB n k = nb) := eN
  have hmk1 := run_make_row' (P := Tryd.prog) 53 36 (.slice none 0 0) 24 Tryd.underlying53 infoBlk rfl .i64 .i64 nb (by omega) (by omega)
  have hmk2 := run_make_row' (P := Tryd.prog) 36 5 (.int .u8 0) 1 Tryd.underlying36 infoU8 rfl .i64 .i64 k (by omega) (by omega)
  clear hl hc eN
  go_enter Tryd.func26, Tryd.ntmps26
  go_wp2_with fail
  refine (cutCheck_any n k _ hB hK).mono ?_
  rintro e w1 ⟨rfl, hb⟩
  have hx := (Boxed.mk w n k 34).below hb
  obtain ⟨x0, x1⟩ := hx
  have HX : Hid (Boxed w1 w.heap.size n k) := ⟨x0, x1⟩
  have hb := boxBelow hb
  rw [HC.out]
  go_wp2_with fail
  refine (cutBlocks_any n k _ hB hK).mono ?_
  rintro e w2 ⟨rfl, hb2⟩
  rw [HN.out]
  have hx := HX.out.below hb2
  have hb := hb.trans (hb2.mono hb.size)
  clear hb2 x0 x1 HX
  have hI0 : CutInv w (w2.alloc (.cells (madeCells #[.slice none 0 0] nb) 36)) w.heap.size w2.heap.size n k nb c 0 := CutInv.start hx hb
  have hgg : w.heap.size < w2.heap.size := by
    have := World.block_lt_of_cell? w2 _ hx.1
    simpa using this
  clear hx hb
  go_wp2
  go_loopw [24] (fun i wr => ∃ m : Nat, m ≤ nb ∧ i = .int .i64 m ∧ Hid (CutInv w wr w.heap.size w2.heap.size n k nb c m)) (fun i _ => nb - (intOf i).toNat)
  case atStart => exact ⟨0, Nat.zero_le _, rfl, hI0⟩
  case round =>
    clear hI0
    obtain ⟨m, hm, rfl, hI⟩ := hrel
    by_cases hlt : m < nb
    · obtain ⟨i1, i2, i3, i4, i5⟩ := hI.out
      have x1 := i4.2
      have y1 := i2.cell hlt
      have y2 := i2.frozen m
      rw [rowAt, if_neg (Nat.lt_irrefl m)] at y1
      have z1 : w2.heap.size < wr.heap.size := by omega
      have z2 : w.heap.size < wr.heap.size := by omega
      clear i1 i2 i3 i4 i5
      have HM : Hid (CutMid w ((wr.setCell ⟨w2.heap.size, m, none⟩ (.slice (some ⟨wr.heap.size, 0, none⟩) k k)).alloc (.cells (madeCells #[.int .u8 0] k) 5)) w.heap.size w2.heap.size n k nb c m) := hI.out.mid hlt hgg (Nat.le_refl _)
      go_wp2
      clear x1 y1 y2 z1 z2 hI
      generalize ((wr.setCell ⟨w2.heap.size, m, none⟩ (.slice (some ⟨wr.heap.size, 0, none⟩) k k)).alloc (.cells (madeCells #[.int .u8 0] k) 5)) = w3 at *
      obtain ⟨p, hp⟩ : ∃ p, p = m * k := ⟨_, rfl⟩
      have hpi : (m : Int) * (k : Int) = (p : Int) := by rw [hp]; simp
      have hpn : p < n := by
        have := Nat.mul_le_mul_right k (show m ≤ nb - 1 by omega)
        omega
      have HP : Hid (p = m * k) := hp
      clear hp
      have q1 : w3.cell? ⟨w2.heap.size, m, none⟩ = some (.slice (some ⟨w2.heap.size + 1 + m, 0, none⟩) k k) := by
        have := HM.out.2.1.cell hlt
        rwa [rowAt, if_pos (by omega)] at this
      have q2 := HM.out.2.2.2.1.2
      have Q3 : Hid (w3.heap[w2.heap.size + 1 + m]? = some (.cells (List.replicate k (Value.int .u8 0)).toArray 5 (0, 0))) := HM.out.2.2.2.2.2
      have hla := ha.below HM.out.2.2.2.2.1 (Nat.le_refl _)
      obtain ⟨ab, ao, rfl⟩ := ha.some (k := 0) (by rw [bs_length, HL.out]; omega)
      obtain ⟨cs, hcs⟩ : ∃ cs, cs = bs ((c.drop (m * k)).take k) := ⟨_, rfl⟩
      have HCS : Hid (cs = bs ((c.drop (m * k)).take k)) := hcs
      have S0 : Hid (cs.length = Nat.min (n - p) k) := copy_len HCS HP HL
      have S1 : Hid (∀ j v, cs[j]? = some v → w3.cell? ((⟨ab, ao + p, none⟩ : Addr).add j) = some v) := copy_src HCS HP hla
      have S2 : Hid (0 + cs.length ≤ (List.replicate k (Value.int .u8 0)).length) := copy_fit S0
      have S3 : Hid (∀ v ∈ cs, v.oneCell' = true) := bs_one HCS
      have hw1 : IntKind.i64.wrap (p : Int) = (p : Int) := by rw [IntKind.wrap_i64]; omega
      have hw2 : (p : Int) ≤ (n : Int) := by omega
      have hw3 : ¬ cap = p := by omega
      have hw4 : (0 : Int) ≤ (p : Int) := by omega
      clear hcs hla ha
      go_region_law (refine step_copy_row rfl (.tmp 36) (.tmp 42) 36 35 rfl 5 Tryd.underlying36 sizeU8 (w2.heap.size + 1 + m) 0 k k ⟨ab, ao + p, none⟩ (n - p) (cap - p) (by simp [Act.eval, Act.put]) (by simp [Act.eval, Act.put]) (List.replicate k (Value.int .u8 0)) cs 5 Q3.out S0.out S1.out S2.out S3.out ?_)
      all_goals
        clear q1 q2 Q3 S0 S1 S2 S3 hw1 hw2 hw3 hw4 hpi
        have HN2 : Hid (CutInv w (w3.drew.setRow (w2.heap.size + 1 + m) (splice (List.replicate k (Value.int IntKind.u8 0)) 0 cs).toArray) w.heap.size w2.heap.size n k nb c (m + 1)) := HM.out.drew.next hgg (Nat.le_refl _) HL HCS
        clear HM
        generalize (w3.drew.setRow (w2.heap.size + 1 + m) (splice (List.replicate k (Value.int IntKind.u8 0)) 0 cs).toArray) = w4 at *
        go_wp2
        go_roundw
        case rel => exact ⟨m + 1, by omega, by go_num, HN2⟩
        case measure => simp [intOf]; omega
    · have hmn : m = nb := by omega
      have HMN : Hid (m = nb) := hmn
      clear hmn
      go_wp2
      go_ret2
      have h := hI.out
      rw [HMN.out] at h
      exact ⟨_, rfl, by omega, h.2.1, h.2.2.1, h.2.2.2.2⟩

def cutBl (g nb k : Nat) (c : List UInt8) : List Blk := (List.range nb).map fun j => ⟨some ⟨g + 1 + j, 0, none⟩, k, piece k j c⟩

theorem cutBl_val (g nb k : Nat) (c : List UInt8) : (cutBl g nb k c).map Blk.val = (List.range nb).map (rowAt g k nb) := by
  unfold cutBl
  rw [List.map_map]
  apply List.map_congr_left
  intro j hj
  have hj : j < nb := by simpa using hj
  simp [Blk.val, rowAt, hj, piece_length]

theorem cutBl_l (g nb k : Nat) (c : List UInt8) : (cutBl g nb k c).map Blk.l = cutL nb k c := by simp [cutBl, cutL]

/-- cut.Cut -/
theorem cut_any (B K : Int) (a : Option Addr) (cap : Nat) (c : List UInt8) (w : World) (hB : I64 B) (hK : I64 K) (hn : c.length ≤ maxLen) (hcap : c.length ≤ cap) (ha : Lies w a (bs c)) :
    Calls Tryd.prog 26 #[.agg #[.int .i64 B, .int .i64 K], .slice a c.length cap] w fun e w' => ∃ a' bl, e = .returned (.tuple #[.slice a' bl.length bl.length, .int .i64 (cutCode B K c)]) ∧ Lies w' a' (bl.map Blk.val) ∧ AllIn w' bl ∧ Caps bl ∧
      bl.map Blk.l = cutRes B K c ∧ Below w.heap.size w w' := by
  by_cases h : cutCode B K c = 0
  · obtain ⟨n, k, nb, g, hl⟩ := cutCode_zero h
    obtain ⟨e1, e2⟩ := cutCode_good g hl
    rw [hl] at hcap ⊢
    refine (cut_good B K n k nb a cap c w g hl hcap ha).mono ?_
    rintro e w' ⟨g', rfl, hg, hrow, hbl, hb⟩
    have hlen : (cutBl g' nb k c).length = nb := by simp [cutBl]
    refine ⟨some ⟨g', 0, none⟩, cutBl g' nb k c, by rw [hlen, h], by rw [cutBl_val]; exact rowIs_lies hrow, ?_, ?_, by rw [cutBl_l, e2], hb⟩
    · intro b hb
      obtain ⟨j, hj, rfl⟩ := List.mem_map.1 hb
      have hj : j < nb := by simpa using hj
      refine ⟨row_lies (hbl j hj) (piece_length _ _ _), ?_⟩
      show (piece k j c).length ≤ maxLen
      rw [piece_length]
      have := g.k2
      unfold maxLen
      omega
    · intro b hb
      obtain ⟨j, hj, rfl⟩ := List.mem_map.1 hb
      exact Nat.le_of_eq (piece_length _ _ _)
  · refine (cut_bad B K a cap c w hB hK hn h).mono ?_
    rintro e w' ⟨rfl, hb⟩
    exact ⟨none, [], rfl, Lies.nil _ _, fun b hb => by simp at hb, fun b hb => by simp at hb, by simp [cutRes, h], hb⟩

end Go.Proofs.YtdhholcbmeoagabDoor
