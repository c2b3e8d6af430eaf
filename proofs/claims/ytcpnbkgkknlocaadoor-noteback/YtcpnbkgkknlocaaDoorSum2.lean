/-
  'blocks' of the statements; sum.addTo and sum.Add: the contract of each.
-/
import Derived.Test.YtcpnbkgkknlocaaDoorSum1
import Derived.Laws.BitsAllLaws
namespace Go.Proofs.YtcpnbkgkknlocaaDoor
open Go.RowKit
set_option linter.unusedVariables false
set_option linter.unusedSimpArgs false

theorem infoBlk : (Tryd.prog.info? 27).map (fun i => (i.zero, i.size, i.bytes)) = some (some (.slice none 0 0), 1, 24) := by kernel_rfl
theorem infoU8 : (Tryd.prog.info? 5).map (fun i => (i.zero, i.size, i.bytes)) = some (some (.int .u8 0), 1, 1) := by kernel_rfl

theorem blocks_step {w wr w1 : World} {v v' : Value} {bl : List Blk} {k : Nat} (hlt : k < bl.length) (hB : w.heap.size ≤ wr.heap.size) (hb : Below w.heap.size w wr)
    (ho : wr.ownsRow w.heap.size 27 1 v k ((bl.map Blk.val).take k)) (o : Obj)
    (ho' : w1.ownsRow w.heap.size 27 1 v' (k + 1) ((bl.map Blk.val).take k ++ [.slice bl[k].a bl[k].l.length bl[k].cap])) (hg : (wr.alloc o).grownBy w1 v.ownBlock) :
    w1.ownsRow w.heap.size 27 1 v' (k + 1) ((bl.map Blk.val).take (k + 1)) ∧ Below w.heap.size w w1 := by
  refine ⟨?_, ?_⟩
  · rw [List.take_succ_eq_append_getElem (by simpa using hlt)]
    simpa [Blk.val] using ho'
  · refine (hb.alloc hB o).grown hg (by simp; omega) ?_
    intro g hg'
    exact (ho.lt g hg').1

/-- the bytes of a row, by their places -/
def u8at (l : List UInt8) (i : Nat) : Value := .int .u8 ((l[i]?.getD 0).toNat : Int)

theorem row_lies {w : World} {g n : Nat} {l : List UInt8} (h : w.rowIs g 5 n (u8at l)) (hn : l.length = n) : Lies w (some ⟨g, 0, none⟩) (bs l) := by
  refine Lies.mk fun k hk => ?_
  have hk' : k < l.length := by simpa [bs] using hk
  rw [Nat.zero_add, h.cell (by omega)]
  simp [u8at, bs, hk']

/-- the first k bytes are added -/
def xorK (xs ys : List UInt8) (k : Nat) : List UInt8 := xorl (xs.take k) (ys.take k) ++ xs.drop k

theorem xorK_zero (xs ys : List UInt8) : xorK xs ys 0 = xs := by simp [xorK, xorl]

theorem xorK_all {xs ys : List UInt8} (h : ys.length = xs.length) : xorK xs ys xs.length = xorl xs ys := by
  simp [xorK]
  rw [List.take_of_length_le (by omega)]

theorem xorK_get {xs ys : List UInt8} (h : ys.length = xs.length) (k i : Nat) (hi : i < xs.length) :
    (xorK xs ys k)[i]? = some (if i < k then xs[i] ^^^ ys[i] else xs[i]) := by
  unfold xorK xorl
  rw [List.getElem?_append]
  have hl : (List.zipWith (fun x y => x ^^^ y) (List.take k xs) (List.take k ys)).length = min k xs.length := by simp [h]
  rw [hl]
  by_cases hik : i < k
  · rw [if_pos (by omega), List.getElem?_zipWith]
    simp [hik, hi, h]
  · rw [if_neg (by omega)]
    simp [hik]
    rw [List.getElem?_eq_getElem (by omega)]
    simp
    congr 1
    omega

theorem u8xor (x y : UInt8) : bits .xor .u8 (x.toNat : Int) (y.toNat : Int) = ((x ^^^ y).toNat : Int) := by
  rw [u8_xor_nat _ _ x.toNat_lt y.toNat_lt]
  simp

theorem addTo_step {w : World} {g n k : Nat} {xs ys : List UInt8} (hx : k < xs.length) (hy : k < ys.length) (he : ys.length = xs.length) (HX : Hid (xs.length = n)) (hr : w.rowIs g 5 n (u8at (xorK xs ys k))) :
    (w.setCell ⟨g, k, none⟩ (.int .u8 ((xs[k].toNat ^^^ ys[k].toNat : Nat) : Int))).rowIs g 5 n (u8at (xorK xs ys (k + 1))) := by
  refine (hr.set k _).congr fun i hi => ?_
  have hi' : i < xs.length := by rw [HX.out]; exact hi
  simp only [u8at, xorK_get he _ i hi']
  by_cases e : i = k
  · subst e
    simp
  · rw [if_neg e]
    by_cases h : i < k
    · simp [h, show i < k + 1 by omega]
    · simp [h, show ¬ i < k + 1 by omega]


/-- how Add answers -/
def addCode (bl : List Blk) : Int := if chk (lens bl) = 0 then (if bl.length = 0 then 8 else 0) else chk (lens bl)

def sumBl (bl : List Blk) : List UInt8 := sumOf (bl.map Blk.l)

theorem addCode_bad {bl : List Blk} (h : chk (lens bl) ≠ 0) : addCode bl = chk (lens bl) := by simp [addCode, h]

theorem addCode_good {bl : List Blk} (h : addCode bl = 0) : chk (lens bl) = 0 ∧ 0 < bl.length := by
  unfold addCode at h
  by_cases hc : chk (lens bl) = 0
  · rw [if_pos hc] at h
    by_cases h0 : bl.length = 0
    · rw [if_pos h0] at h; omega
    · exact ⟨hc, by omega⟩
  · rw [if_neg hc] at h; exact absurd h hc

/-- all are as long as the first -/
theorem good_lens {bl : List Blk} (h : addCode bl = 0) (h0 : 0 < bl.length) : ∀ i (hi : i < bl.length), bl[i].l.length = bl[0].l.length ∧ 1 ≤ bl[i].l.length ∧ bl[i].l.length ≤ 16 := by
  intro i hi
  obtain ⟨hc, _⟩ := addCode_good h
  have := chk_zero hc i (by simpa [lens] using hi)
  rw [lens_get hi, lens_head h0] at this
  omega

theorem take_map_succ {bl : List Blk} {k : Nat} (h : k < bl.length) (acc : List UInt8) : sumTo acc ((bl.map Blk.l).take (k + 1)) = xorl (sumTo acc ((bl.map Blk.l).take k)) bl[k].l := by
  rw [List.take_succ_eq_append_getElem (by simpa using h), sumTo_append]
  simp [sumTo]

theorem made_row {w : World} {n : Nat} : (w.alloc (.cells (madeCells #[.int .u8 0] n) 5)).rowIs w.heap.size 5 n (u8at (zeros n)) := by
  refine (World.rowIs_made w (.int .u8 0) n 5).congr fun i hi => ?_
  simp [u8at, zeros, hi]

theorem sumTo_take_length {bl : List Blk} {n : Nat} {h0 : 0 < bl.length} (HG : Hid (∀ i (hi : i < bl.length), bl[i].l.length = bl[0].l.length ∧ 1 ≤ bl[i].l.length ∧ bl[i].l.length ≤ 16)) (HN : Hid (n = bl[0].l.length)) (k : Nat) :
    (sumTo (zeros n) ((bl.map Blk.l).take k)).length = n := by
  refine sumTo_length _ _ (by simp [zeros]) fun b hb => ?_
  have hm := List.mem_of_mem_take hb
  obtain ⟨c, hc, rfl⟩ := List.mem_map.1 hm
  obtain ⟨i, hi, rfl⟩ := List.mem_iff_getElem.1 hc
  rw [HN.out]
  exact (HG.out i hi).1

theorem sumBl_eq {bl : List Blk} {n : Nat} {h : 0 < bl.length} (HN : Hid (n = bl[0].l.length)) (h0 : 0 < bl.length) : sumTo (zeros n) ((bl.map Blk.l).take bl.length) = sumBl bl := by
  rw [List.take_of_length_le (by simp), HN.out]
  cases bl with
  | nil => simp at h0
  | cons b r => rfl

/-- what lies in old memory is no block of new memory -/
theorem lies_ne {w : World} {a : Option Addr} {l : List UInt8} {g n : Nat} (h : Lies w a (bs l)) (hg : w.heap.size ≤ g) (hl : Hid (l.length = n)) : ∀ c o, a = some ⟨c, o, none⟩ → c ≠ g ∨ n = 0 := by
  intro c o e
  by_cases h0 : n = 0
  · exact .inr h0
  · refine .inl ?_
    have hl0 : 0 < l.length := by rw [hl.out]; omega
    have hc := h.lt e 0 (by rw [bs_length]; exact hl0)
    have := World.block_lt_of_cell? w _ hc
    simp at this
    omega

end Go.Proofs.YtcpnbkgkknlocaaDoor
