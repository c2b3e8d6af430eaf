/-
  'blocks' of the statements; sum.addTo and sum.Add: the contract of each.
-/
import Derived.Test.YtclbmfjincekfabSum1
import Derived.Laws.BitsAllLaws
namespace Go.Proofs.Ytclbmfjincekfab
open Go.RowKit
set_option linter.unusedVariables false
set_option linter.unusedSimpArgs false

theorem infoBlk : (Try.prog.info? 27).map (fun i => (i.zero, i.size, i.bytes)) = some (some (.slice none 0 0), 1, 24) := by kernel_rfl
theorem infoU8 : (Try.prog.info? 5).map (fun i => (i.zero, i.size, i.bytes)) = some (some (.int .u8 0), 1, 1) := by kernel_rfl

theorem blocks_step {w wr w1 : World} {v v' : Value} {bl : List Blk} {k : Nat} (hlt : k < bl.length) (hB : w.heap.size ≤ wr.heap.size) (hb : Below w.heap.size w wr)
    (ho : wr.ownsRow w.heap.size 27 1 v k ((bl.map Blk.val).take k)) (o : Obj)
    (ho' : w1.ownsRow w.heap.size 27 1 v' (k + 1) ((bl.map Blk.val).take k ++ [.slice bl[k].a bl[k].l.length bl[k].cap])) (hg : (wr.alloc o).grownBy w1 v.ownBlock) :
    w1.ownsRow w.heap.size 27 1 v' (k + 1) ((bl.map Blk.val).take (k + 1)) ∧ Below w.heap.size w w1 := by
  refine ⟨?_, ?_⟩
  · rw [List.take_succ_eq_append_getElem (by simpa using hlt)]
    simpa [Blk.val] using ho'
  · refine (hb.alloc hB o).grown hg (by simp; omega) ?_
    intro g hg'
    exact (ho.lt g hg').1

/-- the bytes of a row, by their places -/
def u8at (l : List UInt8) (i : Nat) : Value := .int .u8 ((l[i]?.getD 0).toNat : Int)

theorem row_lies {w : World} {g n : Nat} {l : List UInt8} (h : w.rowIs g 5 n (u8at l)) (hn : l.length = n) : Lies w (some ⟨g, 0, none⟩) (bs l) := by
  refine Lies.mk fun k hk => ?_
  have hk' : k < l.length := by simpa [bs] using hk
  rw [Nat.zero_add, h.cell (by omega)]
  simp [u8at, bs, hk']

/-- the first k bytes are added -/
def xorK (xs ys : List UInt8) (k : Nat) : List UInt8 := xorl (xs.take k) (ys.take k) ++ xs.drop k

theorem xorK_zero (xs ys : List UInt8) : xorK xs ys 0 = xs := by simp [xorK, xorl]

theorem xorK_all {xs ys : List UInt8} (h : ys.length = xs.length) : xorK xs ys xs.length = xorl xs ys := by
  simp [xorK]
  rw [List.take_of_length_le (by omega)]

theorem xorK_get {xs ys : List UInt8} (h : ys.length = xs.length) (k i : Nat) (hi : i < xs.length) :
    (xorK xs ys k)[i]? = some (if i < k then xs[i] ^^^ ys[i] else xs[i]) := by
  unfold xorK xorl
  rw [List.getElem?_append]
  have hl : (List.zipWith (fun x y => x ^^^ y) (List.take k xs) (List.take k ys)).length = min k xs.length := by simp [h]
  rw [hl]
  by_cases hik : i < k
  · rw [if_pos (by omega), List.getElem?_zipWith]
    simp [hik, hi, h]
  · rw [if_neg (by omega)]
    simp [hik]
    rw [List.getElem?_eq_getElem (by omega)]
    simp
    congr 1
    omega

theorem u8xor (x y : UInt8) : bits .xor .u8 (x.toNat : Int) (y.toNat : Int) = ((x ^^^ y).toNat : Int) := by
  rw [u8_xor_nat _ _ x.toNat_lt y.toNat_lt]
  simp

theorem addTo_step {w : World} {g n k : Nat} {xs ys : List UInt8} (hx : k < xs.length) (hy : k < ys.length) (he : ys.length = xs.length) (HX : Hid (xs.length = n)) (hr : w.rowIs g 5 n (u8at (xorK xs ys k))) :
    (w.setCell ⟨g, k, none⟩ (.int .u8 ((xs[k].toNat ^^^ ys[k].toNat : Nat) : Int))).rowIs g 5 n (u8at (xorK xs ys (k + 1))) := by
  refine (hr.set k _).congr fun i hi => ?_
  have hi' : i < xs.length := by rw [HX.out]; exact hi
  simp only [u8at, xorK_get he _ i hi']
  by_cases e : i = k
  · subst e
    simp
  · rw [if_neg e]
    by_cases h : i < k
    · simp [h, show i < k + 1 by omega]
    · simp [h, show ¬ i < k + 1 by omega]

set_option maxHeartbeats 400000 in
theorem addTo_any (g n cb : Nat) (b : Option Addr) (xs ys : List UInt8) (w : World) (hx : xs.length = n) (hy : ys.length = n) (hn : n ≤ maxLen)
    (hr : w.rowIs g 5 n (u8at xs)) (hb : Lies w b (bs ys)) (hne : ∀ c o, b = some ⟨c, o, none⟩ → c ≠ g ∨ n = 0) :
    Calls Try.prog 44 #[.slice (some ⟨g, 0, none⟩) n n, .slice b n cb] w fun e w' => e = .returned (.tuple #[]) ∧ w'.rowIs g 5 n (u8at (xorl xs ys)) ∧ w.grownBy w' (some g) := by
  unfold maxLen at hn
  have HX : Hid (xs.length = n) := hx
  have HY : Hid (ys.length = n) := hy
  clear hx hy
  go_enter Try.func44, Try.ntmps44
  go_wp2
  go_loopw [8] (fun i wr => ∃ k : Nat, k ≤ n ∧ i = .int .i64 k ∧ wr.rowIs g 5 n (u8at (xorK xs ys k)) ∧ w.grownBy wr (some g)) (fun i _ => n - (intOf i).toNat)
  case atStart => exact ⟨0, Nat.zero_le _, rfl, by rw [xorK_zero]; exact hr, grown_refl _ _⟩
  case round =>
    obtain ⟨k, hk, rfl, hrow, hgr⟩ := hrel
    by_cases hlt : k < n
    · obtain ⟨b1, o1, rfl⟩ := hb.some (k := k) (by rw [bs_length, HY.out]; exact hlt)
      have hxl : k < xs.length := by rw [HX.out]; exact hlt
      have hyl : k < ys.length := by rw [HY.out]; exact hlt
      have h1 : wr.cell? ⟨b1, o1 + k, none⟩ = some (.int .u8 (ys[k].toNat : Int)) := (lies_grown hgr hb (fun c o e => (hne c o e).resolve_right (by omega))).at (bs_get ys k hyl)
      have h2 : wr.cell? ⟨g, k, none⟩ = some (.int .u8 (xs[k].toNat : Int)) := by
        rw [hrow.cell hlt, u8at, xorK_get (by rw [HX.out, HY.out]) k k hxl]
        simp
      have h3 : wr.frozen? ⟨g, k, none⟩ = false := hrow.frozen k
      have hxo := u8xor xs[k] ys[k]
      clear hb hr hne
      go_wp2
      go_roundw
      case rel => exact ⟨k + 1, by omega, by go_num, addTo_step hxl hyl (by rw [HX.out, HY.out]) HX hrow, grown_trans hgr (grown_setCell _ _ _ _)⟩
      case measure => simp [intOf]; omega
    · have HK : Hid (k = n) := by have : k = n := by omega
                                  exact this
      clear hb hr hne
      go_wp2
      go_end0
      refine ⟨rfl, ?_, hgr⟩
      have h := HK.out
      rw [h, ← HX.out, xorK_all (by rw [HX.out, HY.out]), HX.out] at hrow
      exact hrow


/-- how Add answers -/
def addCode (bl : List Blk) : Int := if chk (lens bl) = 0 then (if bl.length = 0 then 8 else 0) else chk (lens bl)

def sumBl (bl : List Blk) : List UInt8 := sumOf (bl.map Blk.l)

theorem addCode_bad {bl : List Blk} (h : chk (lens bl) ≠ 0) : addCode bl = chk (lens bl) := by simp [addCode, h]

set_option maxHeartbeats 400000 in
/-- sum.Add where something is wrong -/
theorem add_bad (a : Option Addr) (cap : Nat) (bl : List Blk) (w : World) (hn : bl.length ≤ maxLen) (ha : Lies w a (bl.map Blk.val)) (hall : AllIn w bl) (hbad : addCode bl ≠ 0) :
    Calls Try.prog 37 #[.slice a bl.length cap] w fun e w' => e = .returned (.tuple #[.slice none 0 0, .int .i64 (addCode bl)]) ∧ w = w' := by
  have HC : Hid (Calls Try.prog 43 #[.slice a bl.length cap] w fun e w' => e = .returned (.int .i64 (chk (lens bl))) ∧ w = w') := check_any a cap bl w hn ha hall
  unfold maxLen at hn
  cases hc : (chk (lens bl) != 0) with
  | true =>
    have HA : Hid (addCode bl = chk (lens bl)) := addCode_bad (by simpa using hc)
    clear ha hall
    go_enter Try.func37, Try.ntmps37
    go_wp2_with fail
    refine HC.out.mono ?_
    rintro e w' ⟨rfl, rfl⟩
    go_wp2
    go_ret2
    exact ⟨ret2 rfl (congrArg (Value.int .i64) HA.out.symm), rfl⟩
  | false =>
    have h0 : bl.length = 0 := by
      simp at hc
      simp [addCode, hc] at hbad
      simpa using hbad
    have HA : Hid (addCode bl = 8) := by
      simp at hc
      show addCode bl = 8
      simp [addCode, hc, h0]
    have : bl = [] := List.eq_nil_of_length_eq_zero h0
    subst this
    clear ha hall h0 hn
    go_enter Try.func37, Try.ntmps37
    go_wp2_with fail
    refine HC.out.mono ?_
    rintro e w' ⟨rfl, rfl⟩
    go_wp2
    go_ret2
    exact ⟨ret2 rfl (congrArg (Value.int .i64) HA.out.symm), rfl⟩

theorem addCode_good {bl : List Blk} (h : addCode bl = 0) : chk (lens bl) = 0 ∧ 0 < bl.length := by
  unfold addCode at h
  by_cases hc : chk (lens bl) = 0
  · rw [if_pos hc] at h
    by_cases h0 : bl.length = 0
    · rw [if_pos h0] at h; omega
    · exact ⟨hc, by omega⟩
  · rw [if_neg hc] at h; exact absurd h hc

/-- all are as long as the first -/
theorem good_lens {bl : List Blk} (h : addCode bl = 0) (h0 : 0 < bl.length) : ∀ i (hi : i < bl.length), bl[i].l.length = bl[0].l.length ∧ 1 ≤ bl[i].l.length ∧ bl[i].l.length ≤ 16 := by
  intro i hi
  obtain ⟨hc, _⟩ := addCode_good h
  have := chk_zero hc i (by simpa [lens] using hi)
  rw [lens_get hi, lens_head h0] at this
  omega

theorem take_map_succ {bl : List Blk} {k : Nat} (h : k < bl.length) (acc : List UInt8) : sumTo acc ((bl.map Blk.l).take (k + 1)) = xorl (sumTo acc ((bl.map Blk.l).take k)) bl[k].l := by
  rw [List.take_succ_eq_append_getElem (by simpa using h), sumTo_append]
  simp [sumTo]

theorem made_row {w : World} {n : Nat} : (w.alloc (.cells (madeCells #[.int .u8 0] n) 5)).rowIs w.heap.size 5 n (u8at (zeros n)) := by
  refine (World.rowIs_made w (.int .u8 0) n 5).congr fun i hi => ?_
  simp [u8at, zeros, hi]

theorem sumTo_take_length {bl : List Blk} {n : Nat} {h0 : 0 < bl.length} (HG : Hid (∀ i (hi : i < bl.length), bl[i].l.length = bl[0].l.length ∧ 1 ≤ bl[i].l.length ∧ bl[i].l.length ≤ 16)) (HN : Hid (n = bl[0].l.length)) (k : Nat) :
    (sumTo (zeros n) ((bl.map Blk.l).take k)).length = n := by
  refine sumTo_length _ _ (by simp [zeros]) fun b hb => ?_
  have hm := List.mem_of_mem_take hb
  obtain ⟨c, hc, rfl⟩ := List.mem_map.1 hm
  obtain ⟨i, hi, rfl⟩ := List.mem_iff_getElem.1 hc
  rw [HN.out]
  exact (HG.out i hi).1

theorem sumBl_eq {bl : List Blk} {n : Nat} {h : 0 < bl.length} (HN : Hid (n = bl[0].l.length)) (h0 : 0 < bl.length) : sumTo (zeros n) ((bl.map Blk.l).take bl.length) = sumBl bl := by
  rw [List.take_of_length_le (by simp), HN.out]
  cases bl with
  | nil => simp at h0
  | cons b r => rfl

/-- what lies in old memory is no block of new memory -/
theorem lies_ne {w : World} {a : Option Addr} {l : List UInt8} {g n : Nat} (h : Lies w a (bs l)) (hg : w.heap.size ≤ g) (hl : Hid (l.length = n)) : ∀ c o, a = some ⟨c, o, none⟩ → c ≠ g ∨ n = 0 := by
  intro c o e
  by_cases h0 : n = 0
  · exact .inr h0
  · refine .inl ?_
    have hl0 : 0 < l.length := by rw [hl.out]; omega
    have hc := h.lt e 0 (by rw [bs_length]; exact hl0)
    have := World.block_lt_of_cell? w _ hc
    simp at this
    omega

set_option maxHeartbeats 400000 in
/-- sum.Add where all is right -/
theorem add_good (a : Option Addr) (cap : Nat) (bl : List Blk) (w : World) (hn : bl.length ≤ maxLen) (ha : Lies w a (bl.map Blk.val)) (hall : AllIn w bl) (hgood : addCode bl = 0) :
    Calls Try.prog 37 #[.slice a bl.length cap] w fun e w' => e = .returned (.tuple #[.slice (some ⟨w.heap.size, 0, none⟩) (sumBl bl).length (sumBl bl).length, .int .i64 0]) ∧ w'.rowIs w.heap.size 5 (sumBl bl).length (u8at (sumBl bl)) ∧ Below w.heap.size w w' := by
  have HC : Hid (Calls Try.prog 43 #[.slice a bl.length cap] w fun e w' => e = .returned (.int .i64 (chk (lens bl))) ∧ w = w') := check_any a cap bl w hn ha hall
  unfold maxLen at hn
  obtain ⟨hc0, h0⟩ := addCode_good hgood
  have hgl := good_lens hgood h0
  have hc : (chk (lens bl) != 0) = false := by simp [hc0]
  have hbe : ((bl.length : Int) == 0) = false := by rw [beq_eq_false_iff_ne]; omega
  have HG : Hid (∀ i (hi : i < bl.length), bl[i].l.length = bl[0].l.length ∧ 1 ≤ bl[i].l.length ∧ bl[i].l.length ≤ 16) := hgl
  have hn1 := (hgl 0 h0).2.2
  clear hgl hc0 hgood
  obtain ⟨b1, o1, rfl⟩ := ha.some (k := 0) (by simpa using h0)
  have hc1 : w.cell? ⟨b1, o1, none⟩ = some (.slice bl[0].a bl[0].l.length bl[0].cap) := by simpa using ha.at (k := 0) (by simp [h0, Blk.val])
  obtain ⟨n, hnn⟩ : ∃ n, n = bl[0].l.length := ⟨_, rfl⟩
  rw [← hnn] at hc1 hn1
  have HN : Hid (n = bl[0].l.length) := hnn
  clear hnn
  have hmk := run_make_row' (P := Try.prog) 27 5 (.int .u8 0) 1 Try.underlying27 infoU8 rfl .i64 .i64 n (by omega) (by omega)
  go_enter Try.func37, Try.ntmps37
  go_wp2_with fail
  refine HC.out.mono ?_
  rintro e w' ⟨rfl, rfl⟩
  go_wp2
  go_loopw [23] (fun i wr => ∃ k : Nat, k ≤ bl.length ∧ i = .int .i64 k ∧ wr.rowIs w.heap.size 5 n (u8at (sumTo (zeros n) ((bl.map Blk.l).take k))) ∧ Below w.heap.size w wr) (fun i _ => bl.length - (intOf i).toNat)
  case atStart => exact ⟨0, Nat.zero_le _, rfl, made_row, (Below.refl _ _).alloc (Nat.le_refl _) _⟩
  case round =>
    obtain ⟨k, hk, rfl, hrow, hbw⟩ := hrel
    by_cases hlt : k < bl.length
    · have hck : wr.cell? ⟨b1, o1 + k, none⟩ = some (.slice bl[k].a n bl[k].cap) := (ha.below hbw (Nat.le_refl _)).at (by
        have := (HG.out k hlt).1
        simp [hlt, Blk.val, HN.out, this])
      have hbk := hall bl[k] (by simp)
      have hsl : (sumTo (zeros n) ((bl.map Blk.l).take k)).length = n := sumTo_take_length HG HN k
      have HS : Hid ((sumTo (zeros n) ((bl.map Blk.l).take k)).length = n) := hsl
      have HBK : Hid (bl[k].l.length = n) := by rw [HN.out]; exact (HG.out k hlt).1
      clear hsl
      go_wp2_with fail
      refine (addTo_any w.heap.size n _ _ _ bl[k].l _ HS.out HBK.out (by unfold maxLen; omega) hrow (hbk.1.below hbw (Nat.le_refl _)) (lies_ne hbk.1 (Nat.le_refl _) HBK)).mono ?_
      rintro e w1 ⟨rfl, hrow1, hg1⟩
      have R := take_map_succ hlt (zeros n)
      rw [← R] at hrow1
      have hbw1 : Below w.heap.size w w1 := hbw.grown hg1 hbw.size (by simp)
      clear R hbk hrow hbw hck hg1
      go_wp2
      go_roundw
      case rel => exact ⟨k + 1, by omega, by go_num, hrow1, hbw1⟩
      case measure => simp [intOf]; omega
    · have HK : Hid (k = bl.length) := by have : k = bl.length := by omega
                                          exact this
      go_wp2
      go_ret2
      have hk' := HK.out
      subst hk'
      have e1 : sumTo (zeros n) ((bl.map Blk.l).take bl.length) = sumBl bl := sumBl_eq HN h0
      rw [e1] at hrow
      have e2 : (sumBl bl).length = n := by rw [← e1]; exact sumTo_take_length HG HN bl.length
      exact ⟨ret2 (by rw [e2]; rfl) rfl, by rw [e2]; exact hrow, hbw⟩

end Go.Proofs.Ytclbmfjincekfab
