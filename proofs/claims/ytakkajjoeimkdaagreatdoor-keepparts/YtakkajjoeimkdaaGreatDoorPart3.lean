import Derived.Test.YtakkajjoeimkdaaGreatDoorPart2
import Derived.Laws.EntriesVeiled
import Derived.Test.YtakkajjoeimkdaaGreatDoorPart1
import Derived.Laws.BitsAllLaws
import Derived.Laws.CopyOwn
namespace Go.Proofs.YtakkajjoeimkdaaGreatDoor
end Go.Proofs.YtakkajjoeimkdaaGreatDoor

namespace Go.Proofs.YtakkajjoeimkdaaGreatDoor
open Go.RowKit Go.Maps
set_option linter.unusedVariables false
set_option linter.unusedSimpArgs false

def formB (u : List UInt8) (p n y : Int) (h : Hd) (id : Int) (dn cn : Nat) : Bool :=
 (hasB u 80 || p == 0) && (hasB u 78 || n == 0) && (hasB u 84 || y == 0) && (hasB u 72 || decide (h = ⟨0, 0, 0, 0, 0, 0⟩)) && (hasB u 83 || (id == 0 && (dn : Int) == 0)) && (hasB u 67 || (cn : Int) == 0)

end Go.Proofs.YtakkajjoeimkdaaGreatDoor

namespace Go.Proofs.YtakkajjoeimkdaaGreatDoor
open Go.RowKit
set_option linter.unusedVariables false
set_option linter.unusedSimpArgs false

theorem infoBlk : (Tryz.prog.info? 36).map (fun i => (i.zero, i.size, i.bytes)) = some (some (.slice none 0 0), 1, 24) := by kernel_rfl
theorem infoU8 : (Tryz.prog.info? 5).map (fun i => (i.zero, i.size, i.bytes)) = some (some (.int .u8 0), 1, 1) := by kernel_rfl

def u8at (l : List UInt8) (i : Nat) : Value := .int .u8 ((l[i]?.getD 0).toNat : Int)

theorem row_lies {w : World} {g n : Nat} {l : List UInt8} (h : w.rowIs g 5 n (u8at l)) (hn : l.length = n) : Lies w (some ⟨g, 0, none⟩) (bs l) := by
 refine Lies.mk fun k hk => ?_
 have hk' : k < l.length := by simpa [bs] using hk
 rw [Nat.zero_add, h.cell (by omega)]
 simp [u8at, bs, hk']

def xorK (xs ys : List UInt8) (k : Nat) : List UInt8 := xorl (xs.take k) (ys.take k) ++ xs.drop k

theorem xorK_zero (xs ys : List UInt8) : xorK xs ys 0 = xs := by simp [xorK, xorl]

theorem xorK_all {xs ys : List UInt8} (h : ys.length = xs.length) : xorK xs ys xs.length = xorl xs ys := by
 simp [xorK]
 rw [List.take_of_length_le (by omega)]

theorem xorK_get {xs ys : List UInt8} (h : ys.length = xs.length) (k i : Nat) (hi : i < xs.length) :
  (xorK xs ys k)[i]? = some (if i < k then xs[i] ^^^ ys[i] else xs[i]) := by
 unfold xorK xorl
 rw [List.getElem?_append]
 have hl : (List.zipWith (fun x y => x ^^^ y) (List.take k xs) (List.take k ys)).length = min k xs.length := by simp [h]
 rw [hl]
 by_cases hik : i < k
 ·rw [if_pos (by omega), List.getElem?_zipWith]
  simp [hik, hi, h]
 ·rw [if_neg (by omega)]
  simp [hik]
  rw [List.getElem?_eq_getElem (by omega)]
  simp
  congr 1
  omega

theorem u8xor (x y : UInt8) : bits .xor .u8 (x.toNat : Int) (y.toNat : Int) = ((x ^^^ y).toNat : Int) := by
 rw [u8_xor_nat _ _ x.toNat_lt y.toNat_lt]
 simp

theorem addTo_step {w : World} {g n k : Nat} {xs ys : List UInt8} (hx : k < xs.length) (hy : k < ys.length) (he : ys.length = xs.length) (HX : Hid (xs.length = n)) (hr : w.rowIs g 5 n (u8at (xorK xs ys k))) :
  (w.setCell ⟨g, k, none⟩ (.int .u8 ((xs[k].toNat ^^^ ys[k].toNat : Nat) : Int))).rowIs g 5 n (u8at (xorK xs ys (k + 1))) := by
 refine (hr.set k _).congr fun i hi => ?_
 have hi' : i < xs.length := by rw [HX.out]; exact hi
 simp only [u8at, xorK_get he _ i hi']
 by_cases e : i = k
 ·subst e
  simp
 ·rw [if_neg e]
  by_cases h : i < k
  ·simp [h, show i < k + 1 by omega]
  ·simp [h, show ¬ i < k + 1 by omega]

set_option maxHeartbeats 400000 in
theorem addTo_any (g n cb : Nat) (b : Option Addr) (xs ys : List UInt8) (w : World) (hx : xs.length = n) (hy : ys.length = n) (hn : n ≤ maxLen)
  (hr : w.rowIs g 5 n (u8at xs)) (hb : Lies w b (bs ys)) (hne : ∀ c o, b = some ⟨c, o, none⟩ → c ≠ g ∨ n = 0) :
  Calls Tryz.prog 228 #[.slice (some ⟨g, 0, none⟩) n n, .slice b n cb] w fun e w' => e = .returned (.tuple #[]) ∧ w'.rowIs g 5 n (u8at (xorl xs ys)) ∧ w.grownBy w' (some g) := by
 unfold maxLen at hn
 have HX : Hid (xs.length = n) := hx
 have HY : Hid (ys.length = n) := hy
 clear hx hy
 go_enter Tryz.func228, Tryz.ntmps228
 go_wp2
 go_loopw [8] (fun i wr => ∃ k : Nat, k ≤ n ∧ i = .int .i64 k ∧ wr.rowIs g 5 n (u8at (xorK xs ys k)) ∧ w.grownBy wr (some g)) (fun i _ => n - (intOf i).toNat)
 case atStart => exact ⟨0, Nat.zero_le _, rfl, by rw [xorK_zero]; exact hr, grown_refl _ _⟩
 case round =>
  obtain ⟨k, hk, rfl, hrow, hgr⟩ := hrel
  by_cases hlt : k < n
  ·obtain ⟨b1, o1, rfl⟩ := hb.some (k := k) (by rw [bs_length, HY.out]; exact hlt)
   have hxl : k < xs.length := by rw [HX.out]; exact hlt
   have hyl : k < ys.length := by rw [HY.out]; exact hlt
   have h1 : wr.cell? ⟨b1, o1 + k, none⟩ = some (.int .u8 (ys[k].toNat : Int)) := (lies_grown hgr hb (fun c o e => (hne c o e).resolve_right (by omega))).at (bs_get ys k hyl)
   have h2 : wr.cell? ⟨g, k, none⟩ = some (.int .u8 (xs[k].toNat : Int)) := by
    rw [hrow.cell hlt, u8at, xorK_get (by rw [HX.out, HY.out]) k k hxl]
    simp
   have h3 : wr.frozen? ⟨g, k, none⟩ = false := hrow.frozen k
   have hxo := u8xor xs[k] ys[k]
   clear hb hr hne
   go_wp2
   go_roundw
   case rel => exact ⟨k + 1, by omega, by go_num, addTo_step hxl hyl (by rw [HX.out, HY.out]) HX hrow, grown_trans hgr (grown_setCell _ _ _ _)⟩
   case measure => simp [intOf]; omega
  ·have HK : Hid (k = n) := by have : k = n := by omega
                               exact this
   clear hb hr hne
   go_wp2
   go_end0
   refine ⟨rfl, ?_, hgr⟩
   have h := HK.out
   rw [h, ← HX.out, xorK_all (by rw [HX.out, HY.out]), HX.out] at hrow
   exact hrow

def addCode (bl : List Blk) : Int := if chk (lens bl) = 0 then (if bl.length = 0 then 8 else 0) else chk (lens bl)

def sumBl (bl : List Blk) : List UInt8 := sumOf (bl.map Blk.l)

theorem addCode_good {bl : List Blk} (h : addCode bl = 0) : chk (lens bl) = 0 ∧ 0 < bl.length := by
 unfold addCode at h
 by_cases hc : chk (lens bl) = 0
 ·rw [if_pos hc] at h
  by_cases h0 : bl.length = 0
  ·rw [if_pos h0] at h; omega
  ·exact ⟨hc, by omega⟩
 ·rw [if_neg hc] at h; exact absurd h hc

theorem good_lens {bl : List Blk} (h : addCode bl = 0) (h0 : 0 < bl.length) : ∀ i (hi : i < bl.length), bl[i].l.length = bl[0].l.length ∧ 1 ≤ bl[i].l.length ∧ bl[i].l.length ≤ 16 := by
 intro i hi
 obtain ⟨hc, _⟩ := addCode_good h
 have := chk_zero hc i (by simpa [lens] using hi)
 rw [lens_get hi, lens_head h0] at this
 omega

theorem take_map_succ {bl : List Blk} {k : Nat} (h : k < bl.length) (acc : List UInt8) : sumTo acc ((bl.map Blk.l).take (k + 1)) = xorl (sumTo acc ((bl.map Blk.l).take k)) bl[k].l := by
 rw [List.take_succ_eq_append_getElem (by simpa using h), sumTo_append]
 simp [sumTo]

theorem made_row {w : World} {n : Nat} : (w.alloc (.cells (madeCells #[.int .u8 0] n) 5)).rowIs w.heap.size 5 n (u8at (zeros n)) := by
 refine (World.rowIs_made w (.int .u8 0) n 5).congr fun i hi => ?_
 simp [u8at, zeros, hi]

theorem sumTo_take_length {bl : List Blk} {n : Nat} {h0 : 0 < bl.length} (HG : Hid (∀ i (hi : i < bl.length), bl[i].l.length = bl[0].l.length ∧ 1 ≤ bl[i].l.length ∧ bl[i].l.length ≤ 16)) (HN : Hid (n = bl[0].l.length)) (k : Nat) :
  (sumTo (zeros n) ((bl.map Blk.l).take k)).length = n := by
 refine sumTo_length _ _ (by simp [zeros]) fun b hb => ?_
 have hm := List.mem_of_mem_take hb
 obtain ⟨c, hc, rfl⟩ := List.mem_map.1 hm
 obtain ⟨i, hi, rfl⟩ := List.mem_iff_getElem.1 hc
 rw [HN.out]
 exact (HG.out i hi).1

theorem sumBl_eq {bl : List Blk} {n : Nat} {h : 0 < bl.length} (HN : Hid (n = bl[0].l.length)) (h0 : 0 < bl.length) : sumTo (zeros n) ((bl.map Blk.l).take bl.length) = sumBl bl := by
 rw [List.take_of_length_le (by simp), HN.out]
 cases bl with
 | nil => simp at h0
 | cons b r => rfl

theorem lies_ne {w : World} {a : Option Addr} {l : List UInt8} {g n : Nat} (h : Lies w a (bs l)) (hg : w.heap.size ≤ g) (hl : Hid (l.length = n)) : ∀ c o, a = some ⟨c, o, none⟩ → c ≠ g ∨ n = 0 := by
 intro c o e
 by_cases h0 : n = 0
 ·exact .inr h0
 ·refine .inl ?_
  have hl0 : 0 < l.length := by rw [hl.out]; omega
  have hc := h.lt e 0 (by rw [bs_length]; exact hl0)
  have := World.block_lt_of_cell? w _ hc
  simp at this
  omega

set_option maxHeartbeats 400000 in
theorem add_good (a : Option Addr) (cap : Nat) (bl : List Blk) (w : World) (hn : bl.length ≤ maxLen) (ha : Lies w a (bl.map Blk.val)) (hall : AllIn w bl) (hgood : addCode bl = 0) :
  Calls Tryz.prog 208 #[.slice a bl.length cap] w fun e w' => e = .returned (.tuple #[.slice (some ⟨w.heap.size, 0, none⟩) (sumBl bl).length (sumBl bl).length, .int .i64 0]) ∧ w'.rowIs w.heap.size 5 (sumBl bl).length (u8at (sumBl bl)) ∧ Below w.heap.size w w' := by
 have HC : Hid (Calls Tryz.prog 227 #[.slice a bl.length cap] w fun e w' => e = .returned (.int .i64 (chk (lens bl))) ∧ w = w') := check_any a cap bl w hn ha hall
 unfold maxLen at hn
 obtain ⟨hc0, h0⟩ := addCode_good hgood
 have hgl := good_lens hgood h0
 have hc : (chk (lens bl) != 0) = false := by simp [hc0]
 have hbe : ((bl.length : Int) == 0) = false := by rw [beq_eq_false_iff_ne]; omega
 have HG : Hid (∀ i (hi : i < bl.length), bl[i].l.length = bl[0].l.length ∧ 1 ≤ bl[i].l.length ∧ bl[i].l.length ≤ 16) := hgl
 have hn1 := (hgl 0 h0).2.2
 clear hgl hc0 hgood
 obtain ⟨b1, o1, rfl⟩ := ha.some (k := 0) (by simpa using h0)
 have hc1 : w.cell? ⟨b1, o1, none⟩ = some (.slice bl[0].a bl[0].l.length bl[0].cap) := by simpa using ha.at (k := 0) (by simp [h0, Blk.val])
 obtain ⟨n, hnn⟩ : ∃ n, n = bl[0].l.length := ⟨_, rfl⟩
 rw [← hnn] at hc1 hn1
 have HN : Hid (n = bl[0].l.length) := hnn
 clear hnn
 have hmk := run_make_row' (P := Tryz.prog) 36 5 (.int .u8 0) 1 Tryz.underlying36 infoU8 rfl .i64 .i64 n (by omega) (by omega)
 go_enter Tryz.func208, Tryz.ntmps208
 go_wp2_with fail
 refine HC.out.mono ?_
 rintro e w' ⟨rfl, rfl⟩
 go_wp2
 go_loopw [23] (fun i wr => ∃ k : Nat, k ≤ bl.length ∧ i = .int .i64 k ∧ wr.rowIs w.heap.size 5 n (u8at (sumTo (zeros n) ((bl.map Blk.l).take k))) ∧ Below w.heap.size w wr) (fun i _ => bl.length - (intOf i).toNat)
 case atStart => exact ⟨0, Nat.zero_le _, rfl, made_row, (Below.refl _ _).alloc (Nat.le_refl _) _⟩
 case round =>
  obtain ⟨k, hk, rfl, hrow, hbw⟩ := hrel
  by_cases hlt : k < bl.length
  ·have hck : wr.cell? ⟨b1, o1 + k, none⟩ = some (.slice bl[k].a n bl[k].cap) := (ha.below hbw (Nat.le_refl _)).at (by
    have := (HG.out k hlt).1
    simp [hlt, Blk.val, HN.out, this])
   have hbk := hall bl[k] (by simp)
   have hsl : (sumTo (zeros n) ((bl.map Blk.l).take k)).length = n := sumTo_take_length HG HN k
   have HS : Hid ((sumTo (zeros n) ((bl.map Blk.l).take k)).length = n) := hsl
   have HBK : Hid (bl[k].l.length = n) := by rw [HN.out]; exact (HG.out k hlt).1
   clear hsl
   go_wp2_with fail
   refine (addTo_any w.heap.size n _ _ _ bl[k].l _ HS.out HBK.out (by unfold maxLen; omega) hrow (hbk.1.below hbw (Nat.le_refl _)) (lies_ne hbk.1 (Nat.le_refl _) HBK)).mono ?_
   rintro e w1 ⟨rfl, hrow1, hg1⟩
   have R := take_map_succ hlt (zeros n)
   rw [← R] at hrow1
   have hbw1 : Below w.heap.size w w1 := hbw.grown hg1 hbw.size (by simp)
   clear R hbk hrow hbw hck hg1
   go_wp2
   go_roundw
   case rel => exact ⟨k + 1, by omega, by go_num, hrow1, hbw1⟩
   case measure => simp [intOf]; omega
  ·have HK : Hid (k = bl.length) := by have : k = bl.length := by omega
                                       exact this
   go_wp2
   go_ret2
   have hk' := HK.out
   subst hk'
   have e1 : sumTo (zeros n) ((bl.map Blk.l).take bl.length) = sumBl bl := sumBl_eq HN h0
   rw [e1] at hrow
   have e2 : (sumBl bl).length = n := by rw [← e1]; exact sumTo_take_length HG HN bl.length
   exact ⟨ret2 (by rw [e2]; rfl) rfl, by rw [e2]; exact hrow, hbw⟩

def Boxed (w : World) (g : Nat) (B K : Int) : Prop := w.cell? ⟨g, 0, none⟩ = some (.int .i64 B) ∧ w.cell? ⟨g, 1, none⟩ = some (.int .i64 K)

theorem Boxed.mk (w : World) (B K : Int) (t : TypeId) : Boxed (w.alloc (.cells #[.int .i64 B, .int .i64 K] t)) w.heap.size B K := by
 have h := Lies.alloc_new w #[.int .i64 B, .int .i64 K] t
 exact ⟨h.at (k := 0) rfl, h.at (k := 1) rfl⟩

theorem Boxed.below {w w1 : World} {g : Nat} {B K : Int} (h : Boxed w g B K) (hb : Below w.heap.size w w1) : Boxed w1 g B K := by
 have h1 := World.block_lt_of_cell? w _ h.1
 simp at h1
 exact ⟨by rw [(bcell hb).1 g 0 h1]; exact h.1, by rw [(bcell hb).1 g 1 h1]; exact h.2⟩

def rowAt (g k i : Nat) (j : Nat) : Value := if j < i then .slice (some ⟨g + 1 + j, 0, none⟩) k k else .slice none 0 0

def CutInv (w wr : World) (g0 g n k nb : Nat) (c : List UInt8) (i : Nat) : Prop :=
 wr.heap.size = g + 1 + i ∧ wr.rowIs g 36 nb (rowAt g k i) ∧ (∀ j, j < i → wr.rowIs (g + 1 + j) 5 k (u8at (piece k j c))) ∧ Boxed wr g0 n k ∧ Below w.heap.size w wr

theorem CutInv.start {w w2 : World} {g0 n k nb : Nat} {c : List UInt8} (hx : Boxed w2 g0 n k) (hb : Below w.heap.size w w2) :
  CutInv w (w2.alloc (.cells (madeCells #[.slice none 0 0] nb) 36)) g0 w2.heap.size n k nb c 0 := by
 refine ⟨by simp, (World.rowIs_made w2 _ nb _).congr fun i hi => by simp [rowAt], fun j hj => by omega, hx.below ((Below.refl _ _).alloc (Nat.le_refl _) _), hb.alloc hb.size _⟩

def CutMid (w w3 : World) (g0 g n k nb : Nat) (c : List UInt8) (m : Nat) : Prop :=
 w3.heap.size = g + 1 + (m + 1) ∧ w3.rowIs g 36 nb (rowAt g k (m + 1)) ∧ (∀ j, j < m → w3.rowIs (g + 1 + j) 5 k (u8at (piece k j c))) ∧ Boxed w3 g0 n k ∧ Below w.heap.size w w3 ∧
  w3.heap[g + 1 + m]? = some (.cells (List.replicate k (Value.int .u8 0)).toArray 5 (0, 0))

theorem sizeU8 : (Tryz.prog.info? 5).map (·.size) = some 1 := by kernel_rfl

theorem bs_one {cs : List Value} {l : List UInt8} (h : Hid (cs = bs l)) : ∀ v ∈ cs, v.oneCell' = true := by
 rw [h.out]
 intro v hv
 obtain ⟨x, _, rfl⟩ := List.mem_map.1 hv
 rfl

theorem CutMid.drew {w w3 : World} {g0 g n k nb m : Nat} {c : List UInt8} (h : CutMid w w3 g0 g n k nb c m) : CutMid w w3.drew g0 g n k nb c m :=
 ⟨h.1, h.2.1, h.2.2.1, h.2.2.2.1, h.2.2.2.2.1.drew, h.2.2.2.2.2⟩

theorem rowIs_setRow {w : World} {g n : Nat} {t : TypeId} {old : Array Value} {cs : List Value} {f : Nat → Value} (hg : w.heap[g]? = some (.cells old t (0, 0))) (hn : cs.length = n) (hf : ∀ i (hi : i < cs.length), cs[i] = f i) : (w.setRow g cs.toArray).rowIs g t n f := by
 refine ⟨cs.toArray, setRow_heap w g old cs.toArray t _ hg, by simpa using hn, fun i hi => ?_⟩
 have hi' : i < cs.length := by omega
 simp [hi', hf i hi']

theorem splice_piece {c : List UInt8} {cs : List Value} {m k : Nat} (HCS : Hid (cs = bs ((c.drop (m * k)).take k))) : (splice (List.replicate k (Value.int .u8 0)) 0 cs).length = k ∧ ∀ i (hi : i < (splice (List.replicate k (Value.int .u8 0)) 0 cs).length), (splice (List.replicate k (Value.int .u8 0)) 0 cs)[i] = u8at (piece k m c) i := by
 have hcl : cs.length = min k (c.length - m * k) := by rw [HCS.out, bs_length]; simp
 have hl : (splice (List.replicate k (Value.int .u8 0)) 0 cs).length = k := by
  rw [length_splice _ _ _ (by simp; omega)]; simp
 refine ⟨hl, fun i hi => ?_⟩
 have hik : i < k := by omega
 apply Option.some.inj
 rw [← List.getElem?_eq_getElem hi, u8at, piece_get c hik]
 unfold splice
 rw [List.take_zero, List.nil_append, List.getElem?_append]
 by_cases h : i < cs.length
 ·rw [if_pos h, HCS.out]
  have h2 : m * k + i < c.length := by omega
  simp [bs, hik, h2]
 ·rw [if_neg h]
  have h2 : c[m * k + i]? = none := List.getElem?_eq_none (by omega)
  rw [h2, List.getElem?_drop, List.getElem?_replicate, if_pos (by omega)]
  rfl

theorem CutMid.next {w w3 : World} {g0 g n k nb m : Nat} {c : List UInt8} {cs : List Value} (h : CutMid w w3 g0 g n k nb c m) (hgg : g0 < g) (hw : w.heap.size ≤ g0) (HL : Hid (c.length = n))
  (HCS : Hid (cs = bs ((c.drop (m * k)).take k))) : CutInv w (w3.setRow (g + 1 + m) (splice (List.replicate k (Value.int .u8 0)) 0 cs).toArray) g0 g n k nb c (m + 1) := by
 obtain ⟨i1, i2, i3, i4, i5, i6⟩ := h
 obtain ⟨s1, s2⟩ := splice_piece HCS
 refine ⟨by rw [setRow_size]; exact i1, i2.of_block (setRow_other _ _ _ _ (by omega)), fun j hj => ?_, ?_, below_setRow i5 (by omega) _⟩
 ·by_cases e : j = m
  ·subst e
   exact rowIs_setRow i6 s1 s2
  ·exact (i3 j (by omega)).of_block (setRow_other _ _ _ _ (by omega))
 ·exact ⟨by rw [cell_setRow_other _ _ _ _ (by simp; omega)]; exact i4.1, by rw [cell_setRow_other _ _ _ _ (by simp; omega)]; exact i4.2⟩

end Go.Proofs.YtakkajjoeimkdaaGreatDoor

namespace Go.Proofs.YtakkajjoeimkdaaGreatDoor
set_option linter.unusedVariables false
set_option linter.unusedSimpArgs false

structure V where
 has : Nat → Bool
 dat : Nat → UInt8

theorem V.ext' {a b : V} (h : ∀ k, a.has k = b.has k) (d : ∀ k, a.dat k = b.dat k) : a = b := by
 cases a; cases b
 congr
 ·exact funext h
 ·exact funext d

def V.o : V := ⟨fun _ => false, fun _ => 0⟩

def V.add (a b : V) : V := ⟨fun k => a.has k != b.has k, fun k => a.dat k ^^^ b.dat k⟩

theorem V.has_add (a b : V) (k : Nat) : (a.add b).has k = (a.has k != b.has k) := rfl
theorem V.add_comm (a b : V) : a.add b = b.add a :=
 V.ext' (fun k => by simp only [V.add]; cases a.has k <;> cases b.has k <;> rfl) (fun k => by simp only [V.add]; exact UInt8.xor_comm _ _)

theorem V.add_assoc (a b c : V) : (a.add b).add c = a.add (b.add c) :=
 V.ext' (fun k => by simp only [V.add]; cases a.has k <;> cases b.has k <;> cases c.has k <;> rfl) (fun k => by simp only [V.add]; exact UInt8.xor_assoc _ _ _)

theorem V.add_self (a : V) : a.add a = V.o :=
 V.ext' (fun k => by simp [V.add, V.o]) (fun k => by simp [V.add, V.o])

theorem V.add_o (a : V) : a.add V.o = a :=
 V.ext' (fun k => by simp [V.add, V.o]) (fun k => by simp [V.add, V.o])

theorem V.o_add (a : V) : V.o.add a = a := by rw [V.add_comm, V.add_o]

theorem V.add_add (a b : V) : (a.add b).add b = a := by rw [V.add_assoc, V.add_self, V.add_o]

theorem V.eq_of_add {a b : V} (h : a.add b = V.o) : a = b := by
 have := V.add_add a b
 rw [h, V.o_add] at this
 exact this.symm

inductive Span (S : List V) : V → Prop
 | o : Span S V.o
 | step {r v : V} : r ∈ S → Span S v → Span S (v.add r)

theorem Span.mem {S : List V} {r : V} (h : r ∈ S) : Span S r := by
 have := Span.step h Span.o
 rwa [V.o_add] at this

theorem Span.add {S : List V} {a b : V} (ha : Span S a) (hb : Span S b) : Span S (a.add b) := by
 induction hb with
 | o => rw [V.add_o]; exact ha
 | step h _ ih => rw [← V.add_assoc]; exact .step h ih

theorem Span.sub {S T : List V} (h : ∀ r ∈ S, Span T r) {v : V} (hv : Span S v) : Span T v := by
 induction hv with
 | o => exact .o
 | step hr _ ih => exact ih.add (h _ hr)

theorem Span.mono {S T : List V} (h : ∀ r ∈ S, r ∈ T) {v : V} (hv : Span S v) : Span T v := hv.sub fun r hr => .mem (h r hr)

theorem Span.nought {S : List V} {k : Nat} (h : ∀ r ∈ S, r.has k = false) {v : V} (hv : Span S v) : v.has k = false := by
 induction hv with
 | o => rfl
 | step hr _ ih => rw [V.has_add, ih, h _ hr]; rfl

theorem Span.head {r : V} {S : List V} {v : V} (hv : Span (r :: S) v) : Span S v ∨ Span S (v.add r) := by
 induction hv with
 | o => exact .inl .o
 | @step x u hr _ ih =>
  rcases List.mem_cons.1 hr with rfl | hr
  ·rcases ih with ih | ih
   ·exact .inr (by rw [V.add_add]; exact ih)
   ·exact .inl ih
  ·rcases ih with ih | ih
   ·exact .inl (.step hr ih)
   ·refine .inr ?_
    rw [V.add_assoc, V.add_comm x r, ← V.add_assoc]
    exact .step hr ih

def Lead (v : V) (k : Nat) : Prop := v.has k = true ∧ ∀ j, j < k → v.has j = false

theorem Lead.one {v : V} {j k : Nat} (h : Lead v j) (h' : Lead v k) : j = k := by
 rcases Nat.lt_trichotomy j k with hl | rfl | hl
 ·have := h'.2 j hl; rw [h.1] at this; cases this
 ·rfl
 ·have := h.2 k hl; rw [h'.1] at this; cases this

theorem Lead.of_has {v : V} : ∀ {k : Nat}, v.has k = true → ∃ j, j ≤ k ∧ Lead v j := by
 intro k
 induction k using Nat.strongRecOn with
 | _ k ih =>
  intro h
  by_cases hj : ∃ j, j < k ∧ v.has j = true
  ·obtain ⟨j, hl, hh⟩ := hj
   obtain ⟨i, hi, hL⟩ := ih j hl hh
   exact ⟨i, by omega, hL⟩
  ·refine ⟨k, Nat.le_refl _, h, fun j hl => ?_⟩
   cases hh : v.has j
   ·rfl
   ·exact absurd ⟨j, hl, hh⟩ hj

def Ahead (a b : V) : Prop := ∃ j k, Lead a j ∧ Lead b k ∧ j < k ∧ a.has k = false

theorem Ahead.not {a b : V} (h : Ahead a b) (h' : Ahead b a) : False := by
 obtain ⟨j, k, l1, l2, hl, _⟩ := h
 obtain ⟨j', k', l1', l2', hl', _⟩ := h'
 have := l1.one l2'
 have := l2.one l1'
 omega

theorem Ahead.ne {a : V} (h : Ahead a a) : False := h.not h

structure Sys (A : List V) : Prop where
 lead : ∀ r ∈ A, ∃ k, Lead r k
 pair : A.Pairwise Ahead

theorem Sys.nil : Sys [] := ⟨fun r h => by simp at h, .nil⟩

theorem Sys.tail {a : V} {A : List V} (h : Sys (a :: A)) : Sys A := ⟨fun r hr => h.lead r (List.mem_cons_of_mem _ hr), (List.pairwise_cons.1 h.pair).2⟩

theorem Sys.ahead {a : V} {A : List V} (h : Sys (a :: A)) : ∀ r ∈ A, Ahead a r := (List.pairwise_cons.1 h.pair).1

theorem Sys.apart {A : List V} (h : Sys A) {r s : V} (hr : r ∈ A) (hs : s ∈ A) {k : Nat} (hl : Lead r k) (hk : s.has k = true) : s = r := by
 induction A with
 | nil => simp at hr
 | cons a A ih =>
  rcases List.mem_cons.1 hr with rfl | hr'
  ·rcases List.mem_cons.1 hs with rfl | hs'
   ·rfl
   ·obtain ⟨i, j, l1, l2, hlt, hf⟩ := h.ahead s hs'
    have := l1.one hl
    subst this
    rw [l2.2 _ hlt] at hk
    cases hk
  ·rcases List.mem_cons.1 hs with rfl | hs'
   ·obtain ⟨i, j, l1, l2, hlt, hf⟩ := h.ahead r hr'
    have := l2.one hl
    subst this
    rw [hf] at hk
    cases hk
   ·exact ih h.tail hr' hs'

theorem Sys.nought {A : List V} (h : Sys A) {v : V} (hv : Span A v) (hz : ∀ r ∈ A, ∀ k, Lead r k → v.has k = false) : v = V.o := by
 induction A with
 | nil =>
  cases hv with
  | o => rfl
  | step hr _ => simp at hr
 | cons a A ih =>
  rcases hv.head with hv' | hv'
  ·exact ih h.tail hv' fun r hr => hz r (List.mem_cons_of_mem _ hr)
  ·obtain ⟨k, hk⟩ := h.lead a List.mem_cons_self
   have h1 : (v.add a).has k = false := hv'.nought fun r hr => by
    obtain ⟨i, j, l1, l2, hlt, _⟩ := h.ahead r hr
    have := l1.one hk
    subst this
    exact l2.2 _ hlt
   have h2 := hz a List.mem_cons_self k hk
   rw [V.has_add, h2, hk.1] at h1
   cases h1

theorem Sys.first {A : List V} (h : Sys A) {v : V} (hv : Span A v) {k : Nat} (hk : Lead v k) : ∃ r ∈ A, Lead r k := by
 induction A with
 | nil =>
  cases hv with
  | o => cases hk.1
  | step hr _ => simp at hr
 | cons a A ih =>
  rcases hv.head with hv' | hv'
  ·obtain ⟨r, hr, hl⟩ := ih h.tail hv'
   exact ⟨r, List.mem_cons_of_mem _ hr, hl⟩
  ·obtain ⟨j, hj⟩ := h.lead a List.mem_cons_self
   have hn : ∀ i, i ≤ j → (v.add a).has i = false := fun i hi => hv'.nought fun r hr => by
    obtain ⟨i', j', l1, l2, hlt, _⟩ := h.ahead r hr
    have := l1.one hj
    exact l2.2 _ (by omega)
   have he : ∀ i, i ≤ j → v.has i = a.has i := fun i hi => by
    have := hn i hi
    rw [V.has_add] at this
    simpa using this
   have hvj : Lead v j := ⟨by rw [he j (Nat.le_refl _)]; exact hj.1, fun i hi => by rw [he i (by omega)]; exact hj.2 i hi⟩
   have := hvj.one hk
   subst this
   exact ⟨a, List.mem_cons_self, hj⟩

theorem Sys.sub {A B : List V} (hA : Sys A) (hB : Sys B) (h : ∀ v, Span A v ↔ Span B v) : ∀ a ∈ A, a ∈ B := by
 intro a ha
 obtain ⟨k, hk⟩ := hA.lead a ha
 obtain ⟨b, hb, hbk⟩ := hB.first ((h a).1 (.mem ha)) hk
 have hz : a.add b = V.o := by
  refine hB.nought (((h a).1 (.mem ha)).add (.mem hb)) fun r hr p hp => ?_
  rw [V.has_add]
  by_cases e : p = k
  ·subst e; rw [hk.1, hbk.1]; rfl
  ·have h1 : b.has p = false := by
    cases hh : b.has p
    ·rfl
    ·have := hB.apart hr hb hp hh
     subst this
     exact absurd (hp.one hbk) e
   have h2 : a.has p = false := by
    obtain ⟨a', ha', hl'⟩ := hA.first ((h r).2 (.mem hr)) hp
    cases hh : a.has p
    ·rfl
    ·have := hA.apart ha' ha hl' hh
     subst this
     exact absurd (hl'.one hk) e
   rw [h1, h2]; rfl
 rw [V.eq_of_add hz]
 exact hb

theorem Sys.same {A B : List V} (hA : Sys A) (hB : Sys B) (h1 : ∀ a ∈ A, a ∈ B) (h2 : ∀ b ∈ B, b ∈ A) : A = B := by
 induction A generalizing B with
 | nil =>
  cases B with
  | nil => rfl
  | cons b B => exact absurd (h2 b List.mem_cons_self) (by simp)
 | cons a A ih =>
  cases B with
  | nil => exact absurd (h1 a List.mem_cons_self) (by simp)
  | cons b B =>
   have e : a = b := by
    rcases List.mem_cons.1 (h1 a List.mem_cons_self) with e | h
    ·exact e
    ·rcases List.mem_cons.1 (h2 b List.mem_cons_self) with e | h'
     ·exact e.symm
     ·exact ((hB.ahead a h).not (hA.ahead b h')).elim
   subst e
   congr 1
   refine ih hA.tail hB.tail (fun x hx => ?_) (fun x hx => ?_)
   ·rcases List.mem_cons.1 (h1 x (List.mem_cons_of_mem _ hx)) with e | h
    ·subst e; exact (hA.ahead x hx).ne.elim
    ·exact h
   ·rcases List.mem_cons.1 (h2 x (List.mem_cons_of_mem _ hx)) with e | h
    ·subst e; exact (hB.ahead x hx).ne.elim
    ·exact h

theorem Sys.uniq {A B : List V} (hA : Sys A) (hB : Sys B) (h : ∀ v, Span A v ↔ Span B v) : A = B :=
 hA.same hB (hA.sub hB h) (hB.sub hA fun v => (h v).symm)

def fst (n : Nat) (v : V) : Nat := (List.range n).findIdx fun k => v.has k

theorem fst_lead {n : Nat} {v : V} {k : Nat} (h : Lead v k) (hk : k < n) : fst n v = k := by
 unfold fst
 rw [List.findIdx_eq (by simpa using hk)]
 refine ⟨by simpa using h.1, fun j hj => ?_⟩
 simpa using h.2 j hj

theorem lead_fst {n : Nat} {v : V} (h : fst n v < n) : Lead v (fst n v) := by
 unfold fst at h ⊢
 have h1 : (List.range n).findIdx (fun k => v.has k) < (List.range n).length := by simpa using h
 refine ⟨by simpa using List.findIdx_getElem (w := h1), fun j hj => ?_⟩
 have := List.not_of_lt_findIdx hj
 simpa using this

def Of (n : Nat) (v : V) : Prop := ∀ k, n ≤ k → v.has k = false

theorem Of.add {n : Nat} {a b : V} (ha : Of n a) (hb : Of n b) : Of n (a.add b) := fun k hk => by rw [V.has_add, ha k hk, hb k hk]; rfl

theorem Of.lead {n : Nat} {v : V} (h : Of n v) {k : Nat} (hk : Lead v k) : k < n := by
 rcases Nat.lt_or_ge k n with hl | hl
 ·exact hl
 ·have := hk.1
  rw [h k hl] at this
  cases this

theorem Span.of {n : Nat} {S : List V} (h : ∀ r ∈ S, Of n r) {v : V} (hv : Span S v) : Of n v := fun k hk => hv.nought fun r hr => h r hr k hk

def red (n : Nat) (A : List V) (v : V) : V := A.foldl (fun v s => if v.has (fst n s) = true then v.add s else v) v

theorem red_nil (n : Nat) (v : V) : red n [] v = v := rfl
theorem red_cons (n : Nat) (a : V) (A : List V) (v : V) : red n (a :: A) v = red n A (if v.has (fst n a) = true then v.add a else v) := rfl

theorem red_span (n : Nat) (A : List V) (v : V) : Span A ((red n A v).add v) := by
 induction A generalizing v with
 | nil => rw [red_nil, V.add_self]; exact .o
 | cons a A ih =>
  rw [red_cons]
  split
  ·have h1 := (ih (v.add a)).mono (T := a :: A) fun r hr => List.mem_cons_of_mem _ hr
   have h2 := h1.add (.mem (List.mem_cons_self (a := a) (l := A)))
   rwa [V.add_assoc, V.add_add] at h2
  ·exact (ih v).mono fun r hr => List.mem_cons_of_mem _ hr

theorem red_keep {n : Nat} {A : List V} {k : Nat} (h : ∀ s ∈ A, s.has k = false) (v : V) : (red n A v).has k = v.has k := by
 induction A generalizing v with
 | nil => rfl
 | cons a A ih =>
  rw [red_cons, ih (fun s hs => h s (List.mem_cons_of_mem _ hs))]
  split
  ·rw [V.has_add, h a List.mem_cons_self]; simp
  ·rfl

theorem red_clear {n : Nat} {A : List V} (hA : Sys A) (hn : ∀ r ∈ A, Of n r) (v : V) : ∀ r ∈ A, ∀ k, Lead r k → (red n A v).has k = false := by
 induction A generalizing v with
 | nil => intro r hr; simp at hr
 | cons a A ih =>
  intro r hr k hk
  rcases List.mem_cons.1 hr with rfl | hr'
  ·rw [red_cons, fst_lead hk ((hn r List.mem_cons_self).lead hk), red_keep]
   ·cases hh : v.has k
    ·simp [hh]
    ·simp [V.has_add, hh, hk.1]
   ·intro s hs
    obtain ⟨i, j, l1, l2, hlt, _⟩ := hA.ahead s hs
    have := l1.one hk
    subst this
    exact l2.2 _ hlt
  ·rw [red_cons]
   exact ih hA.tail (fun s hs => hn s (List.mem_cons_of_mem _ hs)) _ r hr' k hk

theorem red_same (n : Nat) (A : List V) (r v : V) : Span (A ++ [r]) v ↔ Span (A ++ [red n A r]) v := by
 have hs := red_span n A r
 have h1 : Span (A ++ [red n A r]) r := by
  have h := (hs.mono (T := A ++ [red n A r]) fun x hx => List.mem_append_left _ hx).add (.mem (r := red n A r) (by simp))
  rw [V.add_comm, ← V.add_assoc, V.add_self, V.o_add] at h
  exact h
 have h2 : Span (A ++ [r]) (red n A r) := by
  have h := (hs.mono (T := A ++ [r]) fun x hx => List.mem_append_left _ hx).add (.mem (r := r) (by simp))
  rwa [V.add_add] at h
 constructor
 ·refine Span.sub fun x hx => ?_
  rcases List.mem_append.1 hx with hx | hx
  ·exact .mem (List.mem_append_left _ hx)
  ·rw [List.mem_singleton.1 hx]; exact h1
 ·refine Span.sub fun x hx => ?_
  rcases List.mem_append.1 hx with hx | hx
  ·exact .mem (List.mem_append_left _ hx)
  ·rw [List.mem_singleton.1 hx]; exact h2

def clr (p : V) (k : Nat) (s : V) : V := if s.has k = true then s.add p else s

theorem clr_has {p s : V} {k : Nat} (hp : p.has k = true) : (clr p k s).has k = false := by
 unfold clr
 split
 ·rename_i h; rw [V.has_add, h, hp]; rfl
 ·rename_i h; simpa using h

theorem clr_low {p s : V} {k j : Nat} (hj : p.has j = false) : (clr p k s).has j = s.has j := by
 unfold clr
 split
 ·rw [V.has_add, hj]; simp
 ·rfl

theorem clr_lead {p s : V} {k j : Nat} (hp : Lead p k) (hs : Lead s j) (hj : p.has j = false) (hne : j ≠ k) : Lead (clr p k s) j := by
 rcases Nat.lt_or_ge j k with hl | hl
 ·refine ⟨by rw [clr_low hj]; exact hs.1, fun i hi => ?_⟩
  rw [clr_low (hp.2 i (by omega))]
  exact hs.2 i hi
 ·have h : s.has k = false := hs.2 k (by omega)
  unfold clr
  rw [if_neg (by simp [h])]
  exact hs

theorem Sys.insert {X Y : List V} {p : V} {k : Nat} (h : Sys (X ++ Y)) (hp : Lead p k) (hz : ∀ r ∈ X ++ Y, ∀ j, Lead r j → p.has j = false)
  (hX : ∀ r ∈ X, ∃ j, j < k ∧ Lead r j) (hY : ∀ r ∈ Y, ∃ j, k < j ∧ Lead r j) : Sys (X.map (clr p k) ++ p :: Y.map (clr p k)) := by
 have hP := List.pairwise_append.1 h.pair
 have hc : ∀ a ∈ X ++ Y, ∀ b ∈ X ++ Y, Ahead a b → Ahead (clr p k a) (clr p k b) := by
  rintro a ha b hb ⟨i, j, l1, l2, hlt, hf⟩
  have z1 := hz a ha i l1
  have z2 := hz b hb j l2
  have n1 : i ≠ k := fun e => by subst e; rw [hp.1] at z1; cases z1
  have n2 : j ≠ k := fun e => by subst e; rw [hp.1] at z2; cases z2
  exact ⟨i, j, clr_lead hp l1 z1 n1, clr_lead hp l2 z2 n2, hlt, by rw [clr_low z2]; exact hf⟩
 have hl : ∀ a ∈ X ++ Y, ∃ i, Lead (clr p k a) i := fun a ha => by
  obtain ⟨i, hi⟩ := h.lead a ha
  have z := hz a ha i hi
  exact ⟨i, clr_lead hp hi z fun e => by subst e; rw [hp.1] at z; cases z⟩
 refine ⟨fun r hr => ?_, ?_⟩
 ·rcases List.mem_append.1 hr with hr | hr
  ·obtain ⟨a, ha, rfl⟩ := List.mem_map.1 hr
   exact hl a (List.mem_append_left _ ha)
  ·rcases List.mem_cons.1 hr with rfl | hr
   ·exact ⟨k, hp⟩
   ·obtain ⟨a, ha, rfl⟩ := List.mem_map.1 hr
    exact hl a (List.mem_append_right _ ha)
 ·rw [List.pairwise_append, List.pairwise_cons]
  refine ⟨?_, ⟨?_, ?_⟩, ?_⟩
  ·rw [List.pairwise_map]
   exact hP.1.imp_of_mem fun ha hb hab => hc _ (List.mem_append_left _ ha) _ (List.mem_append_left _ hb) hab
  ·intro b hb
   obtain ⟨a, ha, rfl⟩ := List.mem_map.1 hb
   obtain ⟨j, hj, hl'⟩ := hY a ha
   have z := hz a (List.mem_append_right _ ha) j hl'
   exact ⟨k, j, hp, clr_lead hp hl' z (by omega), hj, z⟩
  ·rw [List.pairwise_map]
   exact hP.2.1.imp_of_mem fun ha hb hab => hc _ (List.mem_append_right _ ha) _ (List.mem_append_right _ hb) hab
  ·intro a ha b hb
   obtain ⟨a', ha', rfl⟩ := List.mem_map.1 ha
   rcases List.mem_cons.1 hb with rfl | hb
   ·obtain ⟨j, hj, hl'⟩ := hX a' ha'
    have z := hz a' (List.mem_append_left _ ha') j hl'
    exact ⟨j, k, clr_lead hp hl' z (by omega), hp, hj, clr_has hp.1⟩
   ·obtain ⟨b', hb', rfl⟩ := List.mem_map.1 hb
    exact hc _ (List.mem_append_left _ ha') _ (List.mem_append_right _ hb') (hP.2.2 a' ha' b' hb')

theorem clr_span {S : List V} {p s : V} {k : Nat} (hs : Span S s) (hp : Span S p) : Span S (clr p k s) := by
 unfold clr
 split
 ·exact hs.add hp
 ·exact hs

theorem span_clr {S : List V} {p s : V} {k : Nat} (hs : Span S (clr p k s)) (hp : Span S p) : Span S s := by
 unfold clr at hs
 split at hs
 ·have := hs.add hp
  rwa [V.add_add] at this
 ·exact hs

theorem insert_span (X Y : List V) (p : V) (k : Nat) (v : V) : Span (X.map (clr p k) ++ p :: Y.map (clr p k)) v ↔ Span (X ++ Y ++ [p]) v := by
 constructor
 ·refine Span.sub fun r hr => ?_
  have hp : Span (X ++ Y ++ [p]) p := .mem (by simp)
  rcases List.mem_append.1 hr with hr | hr
  ·obtain ⟨a, ha, rfl⟩ := List.mem_map.1 hr
   exact clr_span (.mem (by simp [ha])) hp
  ·rcases List.mem_cons.1 hr with rfl | hr
   ·exact hp
   ·obtain ⟨a, ha, rfl⟩ := List.mem_map.1 hr
    exact clr_span (.mem (by simp [ha])) hp
 ·refine Span.sub fun r hr => ?_
  have hp : Span (X.map (clr p k) ++ p :: Y.map (clr p k)) p := .mem (by simp)
  rcases List.mem_append.1 hr with hr | hr
  ·rcases List.mem_append.1 hr with hr | hr
   ·exact span_clr (k := k) (.mem (List.mem_append_left _ (List.mem_map_of_mem hr))) hp
   ·exact span_clr (k := k) (.mem (List.mem_append_right _ (List.mem_cons_of_mem _ (List.mem_map_of_mem hr)))) hp
  ·rw [List.mem_singleton.1 hr]; exact hp

end Go.Proofs.YtakkajjoeimkdaaGreatDoor
