/-
  The reference's Sum, which counts bits: its contract.
-/
import Derived.Test.YtclbmfjincekfabSum2
import Derived.Lib.RabinKarpLaws
namespace Go.Proofs.Ytclbmfjincekfab
open Go.RowKit
set_option linter.unusedVariables false
set_option linter.unusedSimpArgs false

/-- a byte's bit -/
def bitAt (x : UInt8) (j : Nat) : Nat := x.toNat / 2 ^ j % 2

/-- how many of them have the bit set, at byte i -/
def cntB (ls : List (List UInt8)) (i j : Nat) : Nat := (ls.map fun b => bitAt (b[i]?.getD 0) j).sum

theorem bitAt_le (x : UInt8) (j : Nat) : bitAt x j ≤ 1 := by unfold bitAt; omega

theorem cntB_le (ls : List (List UInt8)) (i j : Nat) : cntB ls i j ≤ ls.length := by
  induction ls with
  | nil => simp [cntB]
  | cons b r ih =>
    have := bitAt_le (b[i]?.getD 0) j
    simp only [cntB, List.map_cons, List.sum_cons, List.length_cons] at ih ⊢
    omega

theorem cntB_snoc (ls : List (List UInt8)) (b : List UInt8) (i j : Nat) : cntB (ls ++ [b]) i j = cntB ls i j + bitAt (b[i]?.getD 0) j := by
  simp [cntB]

theorem cntB_take {bl : List Blk} {m : Nat} (hm : m < bl.length) {i : Nat} (hi : i < bl[m].l.length) (j : Nat) :
    cntB ((bl.map Blk.l).take (m + 1)) i j = cntB ((bl.map Blk.l).take m) i j + bitAt bl[m].l[i] j := by
  rw [List.take_succ_eq_append_getElem (by simpa using hm), cntB_snoc]
  simp [hi]

theorem and_one' (i : Nat) (hi : i < 9223372036854775808) : bits BinOp.and IntKind.i64 (i : Int) 1 = ((i % 2 : Nat) : Int) := by
  exact Go.Proofs.and_one i hi

theorem bit_step (x : UInt8) (j c : Nat) (hc : c ≤ 140737488355328) : wrap64 ((c : Int) + bits BinOp.and IntKind.i64 (wrap64 ((x.toNat : Int) / 2 ^ j)) 1) = ((c + bitAt x j : Nat) : Int) := by
  have hx := x.toNat_lt
  have e : ((x.toNat : Int) / 2 ^ j) = ((x.toNat / 2 ^ j : Nat) : Int) := by simp
  have hle : x.toNat / 2 ^ j ≤ x.toNat := Nat.div_le_self _ _
  unfold bitAt
  rw [e]
  generalize x.toNat / 2 ^ j = q at *
  rw [Go.IntWalk.wrap64_in (q : Int) (by omega), and_one' _ (by omega), Go.IntWalk.wrap64_in _ (by omega)]
  omega

/-- the number that the first j odd counts make -/
def bitsTo (ls : List (List UInt8)) (i : Nat) : Nat → Nat
  | 0 => 0
  | j + 1 => bitsTo ls i j + cntB ls i j % 2 * 2 ^ j

theorem bitsTo_lt (ls : List (List UInt8)) (i j : Nat) : bitsTo ls i j < 2 ^ j := by
  induction j with
  | zero => simp [bitsTo]
  | succ j ih =>
    simp only [bitsTo]
    have : cntB ls i j % 2 ≤ 1 := by omega
    have h2 : cntB ls i j % 2 * 2 ^ j ≤ 1 * 2 ^ j := Nat.mul_le_mul_right _ this
    rw [Nat.pow_succ]
    omega

theorem or_step {B c j : Nat} (hB : B < 2 ^ j) (hj : j < 8) : bits BinOp.or IntKind.u8 (B : Int) ((c : Int) % 2 * 2 ^ j % 256) = ((B + c % 2 * 2 ^ j : Nat) : Int) := by
  have hp : 2 ^ j ≤ 2 ^ 7 := Nat.pow_le_pow_right (by omega) (by omega)
  have h1 : c % 2 * 2 ^ j ≤ 1 * 2 ^ j := Nat.mul_le_mul_right _ (by omega)
  have e : ((c : Int) % 2 * 2 ^ j % 256) = ((c % 2 * 2 ^ j : Nat) : Int) := by
    have h2 : c % 2 * 2 ^ j % 256 = c % 2 * 2 ^ j := Nat.mod_eq_of_lt (by omega)
    have h3 : (((c % 2 * 2 ^ j % 256 : Nat)) : Int) = ((c % 2 * 2 ^ j : Nat) : Int) := by rw [h2]
    rw [← h3]
    simp
  rw [e, u8_or_nat _ _ (by omega) (by omega)]
  congr 1
  rw [Nat.or_comm, Nat.mul_comm, ← Nat.two_pow_add_eq_or_of_lt hB, Nat.add_comm]

theorem bitAt_xor (x y : UInt8) (j : Nat) : bitAt (x ^^^ y) j = (bitAt x j + bitAt y j) % 2 := by
  unfold bitAt
  have h : ∀ n : Nat, n / 2 ^ j % 2 = (n.testBit j).toNat := fun n => by rw [Nat.toNat_testBit]
  rw [h, h, h, UInt8.toNat_xor, Nat.testBit_xor]
  cases x.toNat.testBit j <;> cases y.toNat.testBit j <;> rfl

theorem xorl_get {xs ys : List UInt8} {i : Nat} (h1 : i < xs.length) (h2 : i < ys.length) : (xorl xs ys)[i]?.getD 0 = xs[i]?.getD 0 ^^^ ys[i]?.getD 0 := by
  simp [xorl, List.getElem?_zipWith, h1, h2]

theorem bitAt_sumTo {n : Nat} (acc : List UInt8) (ls : List (List UInt8)) (ha : acc.length = n) (hl : ∀ b ∈ ls, b.length = n) {i : Nat} (hi : i < n) (j : Nat) :
    bitAt ((sumTo acc ls)[i]?.getD 0) j = (bitAt (acc[i]?.getD 0) j + cntB ls i j) % 2 := by
  induction ls generalizing acc with
  | nil => have := bitAt_le (acc[i]?.getD 0) j; simp [sumTo, cntB]; omega
  | cons b r ih =>
    have hb := hl b (by simp)
    simp only [sumTo]
    rw [ih _ (by rw [xorl_length _ _ (by omega), ha]) (fun c hc => hl c (by simp [hc])), xorl_get (by omega) (by omega), bitAt_xor]
    have : cntB (b :: r) i j = bitAt (b[i]?.getD 0) j + cntB r i j := by simp [cntB]
    rw [this]
    omega

theorem byte_bits (x : UInt8) : x.toNat = bitAt x 0 * 1 + bitAt x 1 * 2 + bitAt x 2 * 4 + bitAt x 3 * 8 + bitAt x 4 * 16 + bitAt x 5 * 32 + bitAt x 6 * 64 + bitAt x 7 * 128 := by
  have := x.toNat_lt
  simp only [bitAt, Nat.reducePow]
  omega

theorem bitsTo_sum {n : Nat} (ls : List (List UInt8)) (hl : ∀ b ∈ ls, b.length = n) {i : Nat} (hi : i < n) : bitsTo ls i 8 = ((sumTo (zeros n) ls)[i]?.getD 0).toNat := by
  have hb : ∀ j, bitAt ((sumTo (zeros n) ls)[i]?.getD 0) j = cntB ls i j % 2 := fun j => by
    rw [bitAt_sumTo (n := n) (zeros n) ls (by simp [zeros]) hl hi j]
    simp [zeros, hi, bitAt]
  rw [byte_bits, hb, hb, hb, hb, hb, hb, hb, hb]
  simp [bitsTo]

theorem all_len {bl : List Blk} {n : Nat} (HL : Hid (∀ i (hi : i < bl.length), bl[i].l.length = n)) : ∀ b ∈ bl.map Blk.l, b.length = n := by
  intro b hb
  obtain ⟨c, hc, rfl⟩ := List.mem_map.1 hb
  obtain ⟨i, hi, rfl⟩ := List.mem_iff_getElem.1 hc
  exact HL.out i hi

theorem sumBl_zeros {bl : List Blk} {n : Nat} (h0 : 0 < bl.length) (HL : Hid (∀ i (hi : i < bl.length), bl[i].l.length = n)) : sumBl bl = sumTo (zeros n) (bl.map Blk.l) := by
  have := HL.out 0 h0
  cases bl with
  | nil => simp at h0
  | cons b r => simp at this; simp [sumBl, sumOf, this]

theorem sumBl_len {bl : List Blk} {n : Nat} (h0 : 0 < bl.length) (HL : Hid (∀ i (hi : i < bl.length), bl[i].l.length = n)) : (sumBl bl).length = n := by
  rw [sumBl_zeros h0 HL]
  exact sumTo_length _ _ (by simp [zeros]) (all_len HL)

theorem sum_step {w wr w1 : World} {v v' : Value} {bl : List Blk} {n k : Nat} (h0 : 0 < bl.length) (HL : Hid (∀ i (hi : i < bl.length), bl[i].l.length = n)) (hlt : k < n) (hB : w.heap.size ≤ wr.heap.size) (hb : Below w.heap.size w wr)
    (ho : wr.ownsRow w.heap.size 5 1 v k ((bs (sumBl bl)).take k)) (o : Obj)
    (ho' : w1.ownsRow w.heap.size 5 1 v' (k + 1) ((bs (sumBl bl)).take k ++ [.int .u8 (bitsTo (bl.map Blk.l) k 8 : Int)])) (hg : (wr.alloc o).grownBy w1 v.ownBlock) :
    w1.ownsRow w.heap.size 5 1 v' (k + 1) ((bs (sumBl bl)).take (k + 1)) ∧ Below w.heap.size w w1 := by
  have hl := sumBl_len h0 HL
  refine ⟨?_, ?_⟩
  · rw [List.take_succ_eq_append_getElem (by rw [bs_length]; omega)]
    have e : (bs (sumBl bl))[k]'(by rw [bs_length]; omega) = .int .u8 (bitsTo (bl.map Blk.l) k 8 : Int) := by
      rw [bitsTo_sum (n := n) _ (all_len HL) hlt, ← sumBl_zeros h0 HL]
      simp [bs, show k < (sumBl bl).length by omega]
    rw [e]
    exact ho'
  · refine (hb.alloc hB o).grown hg (by simp; omega) ?_
    intro g hg'
    exact (ho.lt g hg').1

set_option maxHeartbeats 1000000 in
theorem refSum_any (a : Option Addr) (cap n : Nat) (bl : List Blk) (w : World) (hn : bl.length * 24 ≤ 140737488355328) (ha : Lies w a (bl.map Blk.val)) (hall : AllIn w bl)
    (h0 : 0 < bl.length) (hl : ∀ i (hi : i < bl.length), bl[i].l.length = n) (hn16 : n ≤ 16) :
    Calls Try.prog 41 #[.slice a bl.length cap] w fun e w' => ∃ v, e = .returned v ∧ w'.ownsRow w.heap.size 5 1 v n (bs (sumBl bl)) ∧ Below w.heap.size w w' := by
  obtain ⟨i0, hi, hz0, hz1, hz2⟩ := info_parts infoU8
  obtain ⟨b1, o1, rfl⟩ := ha.some (k := 0) (by simpa using h0)
  have HL : Hid (∀ i (hi : i < bl.length), bl[i].l.length = n) := hl
  have hc1 : w.cell? ⟨b1, o1, none⟩ = some (.slice bl[0].a n bl[0].cap) := by simpa using ha.at (k := 0) (by simp [h0, Blk.val, hl 0 h0])
  clear hl
  go_enter Try.func41, Try.ntmps41
  go_wp2
  go_loopw [3, 14] (fun v i wr => ∃ k : Nat, k ≤ n ∧ i = .int .i64 k ∧ wr.ownsRow w.heap.size 5 1 v k ((bs (sumBl bl)).take k) ∧ Below w.heap.size w wr) (fun _ i _ => n - (intOf i).toNat)
  case atStart => exact ⟨0, Nat.zero_le _, rfl, World.ownsRow_nil _ _ _ _, Below.refl _ _⟩
  case round =>
    obtain ⟨k, hk, rfl, hown, hbw⟩ := hrel
    by_cases hlt : k < n
    · have hsz := hbw.size
      go_wp2
      go_loop [5, 17] (fun c bi => ∃ (j : Nat), j ≤ 8 ∧ bi = .int .i64 j ∧ c = .int .u8 (bitsTo (bl.map Blk.l) k j : Int)) (fun _ bi => 8 - (intOf bi).toNat)
      case atStart => exact ⟨0, by omega, rfl, rfl⟩
      case round =>
        obtain ⟨j, hj, rfl, rfl⟩ := hrel
        by_cases hj8 : j < 8
        · go_wp2
          go_loop [7, 22] (fun c bi => ∃ (m : Nat), m ≤ bl.length ∧ bi = .int .i64 m ∧ c = .int .i64 (cntB ((bl.map Blk.l).take m) k j : Int)) (fun _ bi => bl.length - (intOf bi).toNat)
          case atStart => exact ⟨0, by omega, rfl, rfl⟩
          case round =>
            obtain ⟨m, hm, rfl, rfl⟩ := hrel
            by_cases hml : m < bl.length
            · have hcm : wr.cell? ⟨b1, o1 + m, none⟩ = some (.slice bl[m].a n bl[m].cap) := (ha.below hbw (Nat.le_refl _)).at (by
                have := HL.out m hml
                simp [hml, Blk.val, this])
              have hbm := (hall bl[m] (by simp)).1.below hbw (Nat.le_refl _)
              have hkm : k < bl[m].l.length := by rw [HL.out m hml]; exact hlt
              obtain ⟨b2, o2, e2⟩ := hbm.some (k := k) (by rw [bs_length]; exact hkm)
              rw [e2] at hbm hcm
              have hcb : wr.cell? ⟨b2, o2 + k, none⟩ = some (.int .u8 (bl[m].l[k].toNat : Int)) := hbm.at (bs_get _ k hkm)
              clear e2 hbm
              have hcl := cntB_le ((bl.map Blk.l).take m) k j
              have hcl2 : ((bl.map Blk.l).take m).length ≤ m := List.length_take_le _ _
              have HST : Hid (wrap64 ((cntB ((bl.map Blk.l).take m) k j : Int) + bits BinOp.and IntKind.i64 (wrap64 ((bl[m].l[k].toNat : Int) / 2 ^ j)) 1) = ((cntB ((bl.map Blk.l).take (m + 1)) k j : Nat) : Int)) := by
                rw [cntB_take hml hkm]
                exact bit_step _ _ _ (by omega)
              clear hcl hcl2
              go_wp2
              go_round
              case rel => exact ⟨m + 1, by omega, by go_num, congrArg (Value.int .i64) HST.out⟩
              case measure => simp [intOf]; omega
            · have HM : Hid (m = bl.length) := by have : m = bl.length := by omega
                                                  exact this
              go_wp2
              go_round
              case rel => exact ⟨j + 1, by omega, by go_num, congrArg (Value.int .u8) (by rw [HM.out, List.take_of_length_le (by simp)]; exact or_step (bitsTo_lt _ _ _) hj8)⟩
              case measure => simp [intOf]; omega
        · have h8 : j = 8 := by omega
          subst h8
          go_wp2_with (first | (at_builtin; refine wpList_append_own _ rfl _ _ 27 rfl w.heap.size 5 i0 (.int .u8 0) 1 1 Try.underlying27 hi hz0 hz1 hz2 rfl (by decide) _ _ _ rfl (hown.alloc _) ⟨wr.heap.size, 0, none⟩ 1 1 [.int .u8 (bitsTo (bl.map Blk.l) k 8 : Int)] rfl rfl ?c1 ?c2 ?c3 ?c4 ?c5 ?_) | go_in)
          case c2 => rfl
          case c3 => unfold maxLen; omega
          case c4 => omega
          case c5 => omega
          intro v' w1 hown' hgrow _
          have R := sum_step h0 HL hlt hsz hbw hown _ hown' hgrow
          clear hown' hgrow hown hbw
          go_wp2
          go_roundw
          case rel => exact ⟨k + 1, by omega, by go_num, R.1, R.2⟩
          case measure => simp [intOf]; omega
    · have HK : Hid (k = n) := by have : k = n := by omega
                                  exact this
      go_wp2
      go_ret
      refine ⟨_, rfl, ?_, hbw⟩
      have := HK.out
      subst this
      rwa [List.take_of_length_le (by rw [bs_length, sumBl_len h0 HL]; omega)] at hown

end Go.Proofs.Ytclbmfjincekfab
