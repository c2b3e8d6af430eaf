import Derived.Test.YtkiejflgphjfjacDoorPart1
import Derived.Lib.RabinKarpLaws
import Derived.Deep.AppendLies
import Derived.Deep.RegionLaw
import Derived.Deep.RegionHeldLaw
import Derived.Deep.CutBlock
import Derived.Test.YtkiejflgphjfjacDoorPart3
/-
  The reference's Sum, which counts bits: its contract.
-/
namespace Go.Proofs.YtkiejflgphjfjacDoor
open Go.RowKit
set_option linter.unusedVariables false
set_option linter.unusedSimpArgs false

/-- a byte's bit -/
def bitAt (x : UInt8) (j : Nat) : Nat := x.toNat / 2 ^ j % 2

/-- how many of them have the bit set, at byte i -/
def cntB (ls : List (List UInt8)) (i j : Nat) : Nat := (ls.map fun b => bitAt (b[i]?.getD 0) j).sum

theorem bitAt_le (x : UInt8) (j : Nat) : bitAt x j ≤ 1 := by unfold bitAt; omega

theorem cntB_le (ls : List (List UInt8)) (i j : Nat) : cntB ls i j ≤ ls.length := by
  induction ls with
  | nil => simp [cntB]
  | cons b r ih =>
    have := bitAt_le (b[i]?.getD 0) j
    simp only [cntB, List.map_cons, List.sum_cons, List.length_cons] at ih ⊢
    omega

theorem cntB_snoc (ls : List (List UInt8)) (b : List UInt8) (i j : Nat) : cntB (ls ++ [b]) i j = cntB ls i j + bitAt (b[i]?.getD 0) j := by
  simp [cntB]

theorem cntB_take {bl : List Blk} {m : Nat} (hm : m < bl.length) {i : Nat} (hi : i < bl[m].l.length) (j : Nat) :
    cntB ((bl.map Blk.l).take (m + 1)) i j = cntB ((bl.map Blk.l).take m) i j + bitAt bl[m].l[i] j := by
  rw [List.take_succ_eq_append_getElem (by simpa using hm), cntB_snoc]
  simp [hi]

theorem and_one' (i : Nat) (hi : i < 9223372036854775808) : bits BinOp.and IntKind.i64 (i : Int) 1 = ((i % 2 : Nat) : Int) := by
  exact Go.Proofs.and_one i hi

theorem bit_step (x : UInt8) (j c : Nat) (hc : c ≤ 140737488355328) : wrap64 ((c : Int) + bits BinOp.and IntKind.i64 (wrap64 ((x.toNat : Int) / 2 ^ j)) 1) = ((c + bitAt x j : Nat) : Int) := by
  have hx := x.toNat_lt
  have e : ((x.toNat : Int) / 2 ^ j) = ((x.toNat / 2 ^ j : Nat) : Int) := by simp
  have hle : x.toNat / 2 ^ j ≤ x.toNat := Nat.div_le_self _ _
  unfold bitAt
  rw [e]
  generalize x.toNat / 2 ^ j = q at *
  rw [Go.IntWalk.wrap64_in (q : Int) (by omega), and_one' _ (by omega), Go.IntWalk.wrap64_in _ (by omega)]
  omega

/-- the number that the first j odd counts make -/
def bitsTo (ls : List (List UInt8)) (i : Nat) : Nat → Nat
  | 0 => 0
  | j + 1 => bitsTo ls i j + cntB ls i j % 2 * 2 ^ j

theorem bitsTo_lt (ls : List (List UInt8)) (i j : Nat) : bitsTo ls i j < 2 ^ j := by
  induction j with
  | zero => simp [bitsTo]
  | succ j ih =>
    simp only [bitsTo]
    have : cntB ls i j % 2 ≤ 1 := by omega
    have h2 : cntB ls i j % 2 * 2 ^ j ≤ 1 * 2 ^ j := Nat.mul_le_mul_right _ this
    rw [Nat.pow_succ]
    omega

theorem or_step {B c j : Nat} (hB : B < 2 ^ j) (hj : j < 8) : bits BinOp.or IntKind.u8 (B : Int) ((c : Int) % 2 * 2 ^ j % 256) = ((B + c % 2 * 2 ^ j : Nat) : Int) := by
  have hp : 2 ^ j ≤ 2 ^ 7 := Nat.pow_le_pow_right (by omega) (by omega)
  have h1 : c % 2 * 2 ^ j ≤ 1 * 2 ^ j := Nat.mul_le_mul_right _ (by omega)
  have e : ((c : Int) % 2 * 2 ^ j % 256) = ((c % 2 * 2 ^ j : Nat) : Int) := by
    have h2 : c % 2 * 2 ^ j % 256 = c % 2 * 2 ^ j := Nat.mod_eq_of_lt (by omega)
    have h3 : (((c % 2 * 2 ^ j % 256 : Nat)) : Int) = ((c % 2 * 2 ^ j : Nat) : Int) := by rw [h2]
    rw [← h3]
    simp
  rw [e, u8_or_nat _ _ (by omega) (by omega)]
  congr 1
  rw [Nat.or_comm, Nat.mul_comm, ← Nat.two_pow_add_eq_or_of_lt hB, Nat.add_comm]

theorem bitAt_xor (x y : UInt8) (j : Nat) : bitAt (x ^^^ y) j = (bitAt x j + bitAt y j) % 2 := by
  unfold bitAt
  have h : ∀ n : Nat, n / 2 ^ j % 2 = (n.testBit j).toNat := fun n => by rw [Nat.toNat_testBit]
  rw [h, h, h, UInt8.toNat_xor, Nat.testBit_xor]
  cases x.toNat.testBit j <;> cases y.toNat.testBit j <;> rfl

theorem xorl_get {xs ys : List UInt8} {i : Nat} (h1 : i < xs.length) (h2 : i < ys.length) : (xorl xs ys)[i]?.getD 0 = xs[i]?.getD 0 ^^^ ys[i]?.getD 0 := by
  simp [xorl, List.getElem?_zipWith, h1, h2]

theorem bitAt_sumTo {n : Nat} (acc : List UInt8) (ls : List (List UInt8)) (ha : acc.length = n) (hl : ∀ b ∈ ls, b.length = n) {i : Nat} (hi : i < n) (j : Nat) :
    bitAt ((sumTo acc ls)[i]?.getD 0) j = (bitAt (acc[i]?.getD 0) j + cntB ls i j) % 2 := by
  induction ls generalizing acc with
  | nil => have := bitAt_le (acc[i]?.getD 0) j; simp [sumTo, cntB]; omega
  | cons b r ih =>
    have hb := hl b (by simp)
    simp only [sumTo]
    rw [ih _ (by rw [xorl_length _ _ (by omega), ha]) (fun c hc => hl c (by simp [hc])), xorl_get (by omega) (by omega), bitAt_xor]
    have : cntB (b :: r) i j = bitAt (b[i]?.getD 0) j + cntB r i j := by simp [cntB]
    rw [this]
    omega

theorem byte_bits (x : UInt8) : x.toNat = bitAt x 0 * 1 + bitAt x 1 * 2 + bitAt x 2 * 4 + bitAt x 3 * 8 + bitAt x 4 * 16 + bitAt x 5 * 32 + bitAt x 6 * 64 + bitAt x 7 * 128 := by
  have := x.toNat_lt
  simp only [bitAt, Nat.reducePow]
  omega

theorem bitsTo_sum {n : Nat} (ls : List (List UInt8)) (hl : ∀ b ∈ ls, b.length = n) {i : Nat} (hi : i < n) : bitsTo ls i 8 = ((sumTo (zeros n) ls)[i]?.getD 0).toNat := by
  have hb : ∀ j, bitAt ((sumTo (zeros n) ls)[i]?.getD 0) j = cntB ls i j % 2 := fun j => by
    rw [bitAt_sumTo (n := n) (zeros n) ls (by simp [zeros]) hl hi j]
    simp [zeros, hi, bitAt]
  rw [byte_bits, hb, hb, hb, hb, hb, hb, hb, hb]
  simp [bitsTo]

theorem all_len {bl : List Blk} {n : Nat} (HL : Hid (∀ i (hi : i < bl.length), bl[i].l.length = n)) : ∀ b ∈ bl.map Blk.l, b.length = n := by
  intro b hb
  obtain ⟨c, hc, rfl⟩ := List.mem_map.1 hb
  obtain ⟨i, hi, rfl⟩ := List.mem_iff_getElem.1 hc
  exact HL.out i hi

theorem sumBl_zeros {bl : List Blk} {n : Nat} (h0 : 0 < bl.length) (HL : Hid (∀ i (hi : i < bl.length), bl[i].l.length = n)) : sumBl bl = sumTo (zeros n) (bl.map Blk.l) := by
  have := HL.out 0 h0
  cases bl with
  | nil => simp at h0
  | cons b r => simp at this; simp [sumBl, sumOf, this]

theorem sumBl_len {bl : List Blk} {n : Nat} (h0 : 0 < bl.length) (HL : Hid (∀ i (hi : i < bl.length), bl[i].l.length = n)) : (sumBl bl).length = n := by
  rw [sumBl_zeros h0 HL]
  exact sumTo_length _ _ (by simp [zeros]) (all_len HL)

theorem sum_step {w wr w1 : World} {v v' : Value} {bl : List Blk} {n k : Nat} (h0 : 0 < bl.length) (HL : Hid (∀ i (hi : i < bl.length), bl[i].l.length = n)) (hlt : k < n) (hB : w.heap.size ≤ wr.heap.size) (hb : Below w.heap.size w wr)
    (ho : wr.ownsRow w.heap.size 5 1 v k ((bs (sumBl bl)).take k)) (o : Obj)
    (ho' : w1.ownsRow w.heap.size 5 1 v' (k + 1) ((bs (sumBl bl)).take k ++ [.int .u8 (bitsTo (bl.map Blk.l) k 8 : Int)])) (hg : (wr.alloc o).grownBy w1 v.ownBlock) :
    w1.ownsRow w.heap.size 5 1 v' (k + 1) ((bs (sumBl bl)).take (k + 1)) ∧ Below w.heap.size w w1 := by
  have hl := sumBl_len h0 HL
  refine ⟨?_, ?_⟩
  · rw [List.take_succ_eq_append_getElem (by rw [bs_length]; omega)]
    have e : (bs (sumBl bl))[k]'(by rw [bs_length]; omega) = .int .u8 (bitsTo (bl.map Blk.l) k 8 : Int) := by
      rw [bitsTo_sum (n := n) _ (all_len HL) hlt, ← sumBl_zeros h0 HL]
      simp [bs, show k < (sumBl bl).length by omega]
    rw [e]
    exact ho'
  · refine (hb.alloc hB o).grown hg (by simp; omega) ?_
    intro g hg'
    exact (ho.lt g hg').1

set_option maxRecDepth 8000 in
set_option maxHeartbeats 1000000 in
theorem refSum_any (a : Option Addr) (cap n : Nat) (bl : List Blk) (w : World) (hn : bl.length * 24 ≤ 140737488355328) (ha : Lies w a (bl.map Blk.val)) (hall : AllIn w bl)
    (h0 : 0 < bl.length) (hl : ∀ i (hi : i < bl.length), bl[i].l.length = n) (hn16 : n ≤ 16) :
    Calls Tryd.prog 60 #[.slice a bl.length cap] w fun e w' => ∃ v, e = .returned v ∧ w'.ownsRow w.heap.size 5 1 v n (bs (sumBl bl)) ∧ Below w.heap.size w w' := by
  obtain ⟨i0, hi, hz0, hz1, hz2⟩ := info_parts infoU8
  obtain ⟨b1, o1, rfl⟩ := ha.some (k := 0) (by simpa using h0)
  have HL : Hid (∀ i (hi : i < bl.length), bl[i].l.length = n) := hl
  have hc1 : w.cell? ⟨b1, o1, none⟩ = some (.slice bl[0].a n bl[0].cap) := by simpa using ha.at (k := 0) (by simp [h0, Blk.val, hl 0 h0])
  clear hl
  go_enter Tryd.func60, Tryd.ntmps60
  go_wp2
  go_loopw [3, 14] (fun v i wr => ∃ k : Nat, k ≤ n ∧ i = .int .i64 k ∧ wr.ownsRow w.heap.size 5 1 v k ((bs (sumBl bl)).take k) ∧ Below w.heap.size w wr) (fun _ i _ => n - (intOf i).toNat)
  case atStart => exact ⟨0, Nat.zero_le _, rfl, World.ownsRow_nil _ _ _ _, Below.refl _ _⟩
  case round =>
    obtain ⟨k, hk, rfl, hown, hbw⟩ := hrel
    by_cases hlt : k < n
    · have hsz := hbw.size
      go_wp2
      go_loop [5, 17] (fun c bi => ∃ (j : Nat), j ≤ 8 ∧ bi = .int .i64 j ∧ c = .int .u8 (bitsTo (bl.map Blk.l) k j : Int)) (fun _ bi => 8 - (intOf bi).toNat)
      case atStart => exact ⟨0, by omega, rfl, rfl⟩
      case round =>
        obtain ⟨j, hj, rfl, rfl⟩ := hrel
        by_cases hj8 : j < 8
        · go_wp2
          go_loop [7, 22] (fun c bi => ∃ (m : Nat), m ≤ bl.length ∧ bi = .int .i64 m ∧ c = .int .i64 (cntB ((bl.map Blk.l).take m) k j : Int)) (fun _ bi => bl.length - (intOf bi).toNat)
          case atStart => exact ⟨0, by omega, rfl, rfl⟩
          case round =>
            obtain ⟨m, hm, rfl, rfl⟩ := hrel
            by_cases hml : m < bl.length
            · have hcm : wr.cell? ⟨b1, o1 + m, none⟩ = some (.slice bl[m].a n bl[m].cap) := (ha.below hbw (Nat.le_refl _)).at (by
                have := HL.out m hml
                simp [hml, Blk.val, this])
              have hbm := (hall bl[m] (by simp)).1.below hbw (Nat.le_refl _)
              have hkm : k < bl[m].l.length := by rw [HL.out m hml]; exact hlt
              obtain ⟨b2, o2, e2⟩ := hbm.some (k := k) (by rw [bs_length]; exact hkm)
              rw [e2] at hbm hcm
              have hcb : wr.cell? ⟨b2, o2 + k, none⟩ = some (.int .u8 (bl[m].l[k].toNat : Int)) := hbm.at (bs_get _ k hkm)
              clear e2 hbm
              have hcl := cntB_le ((bl.map Blk.l).take m) k j
              have hcl2 : ((bl.map Blk.l).take m).length ≤ m := List.length_take_le _ _
              have HST : Hid (wrap64 ((cntB ((bl.map Blk.l).take m) k j : Int) + bits BinOp.and IntKind.i64 (wrap64 ((bl[m].l[k].toNat : Int) / 2 ^ j)) 1) = ((cntB ((bl.map Blk.l).take (m + 1)) k j : Nat) : Int)) := by
                rw [cntB_take hml hkm]
                exact bit_step _ _ _ (by omega)
              clear hcl hcl2
              go_wp2
              go_round
              case rel => exact ⟨m + 1, by omega, by go_num, congrArg (Value.int .i64) HST.out⟩
              case measure => simp [intOf]; omega
            · have HM : Hid (m = bl.length) := by have : m = bl.length := by omega
                                                  exact this
              go_wp2
              go_round
              case rel => exact ⟨j + 1, by omega, by go_num, congrArg (Value.int .u8) (by rw [HM.out, List.take_of_length_le (by simp)]; exact or_step (bitsTo_lt _ _ _) hj8)⟩
              case measure => simp [intOf]; omega
        · have h8 : j = 8 := by omega
          subst h8
          go_wp2_with (first | (at_builtin; refine wpList_append_own _ rfl _ _ 36 rfl w.heap.size 5 i0 (.int .u8 0) 1 1 Tryd.underlying36 hi hz0 hz1 hz2 rfl (by decide) _ _ _ rfl (hown.alloc _) ⟨wr.heap.size, 0, none⟩ 1 1 [.int .u8 (bitsTo (bl.map Blk.l) k 8 : Int)] rfl rfl ?c1 ?c2 ?c3 ?c4 ?c5 ?_) | go_in)
          case c2 => rfl
          case c3 => unfold maxLen; omega
          case c4 => omega
          case c5 => omega
          intro v' w1 hown' hgrow _
          have R := sum_step h0 HL hlt hsz hbw hown _ hown' hgrow
          clear hown' hgrow hown hbw
          go_wp2
          go_roundw
          case rel => exact ⟨k + 1, by omega, by go_num, R.1, R.2⟩
          case measure => simp [intOf]; omega
    · have HK : Hid (k = n) := by have : k = n := by omega
                                  exact this
      go_wp2
      go_ret
      refine ⟨_, rfl, ?_, hbw⟩
      have := HK.out
      subst this
      rwa [List.take_of_length_le (by rw [bs_length, sumBl_len h0 HL]; omega)] at hown

end Go.Proofs.YtkiejflgphjfjacDoor

/-
  The reference's 'both': its contract.
-/
namespace Go.Proofs.YtkiejflgphjfjacDoor
open Go.RowKit
set_option linter.unusedVariables false
set_option linter.unusedSimpArgs false

theorem infoBool : (Tryd.prog.info? 4).map (fun i => (i.zero, i.size, i.bytes)) = some (some (.bool false), 1, 1) := by kernel_rfl

/-- what just one of both has -/
def xorH (a b : List Bool) : List Bool := List.zipWith (fun x y => x != y) a b

theorem xorH_length {a b : List Bool} (h : b.length = a.length) : (xorH a b).length = a.length := by simp [xorH, h]

/-- the reference's Sum of two blocks that stand in a list -/
theorem sum_pair (w : World) (p : Option Addr) (cp : Nat) (a : Option Addr) (ca : Nat) (b : Option Addr) (cb : Nat) (x y : List UInt8) (k : Nat) (hk : k ≤ 16) (hx : x.length = k) (hy : y.length = k) (hp : Lies w p [.slice a k ca, .slice b k cb]) (ha : Lies w a (bs x)) (hb : Lies w b (bs y)) :
    Calls Tryd.prog 60 #[.slice p 2 cp] w fun e w' => ∃ (p' : Option Addr) (q : Nat), e = .returned (.slice p' k q) ∧ Lies w' p' (bs (xorl x y)) ∧ Below w.heap.size w w' ∧ ∀ c o, p' = some ⟨c, o, none⟩ → w.heap.size ≤ c := by
  have hl : Lies w p ([⟨a, ca, x⟩, ⟨b, cb, y⟩].map Blk.val) := by
    have e : ([⟨a, ca, x⟩, ⟨b, cb, y⟩].map Blk.val) = [.slice a k ca, .slice b k cb] := by simp [Blk.val, hx, hy]
    rw [e]
    exact hp
  have hall : AllIn w [⟨a, ca, x⟩, ⟨b, cb, y⟩] := by
    intro z hz
    simp at hz
    rcases hz with rfl | rfl
    · exact ⟨ha, by unfold maxLen; simp [hx]; omega⟩
    · exact ⟨hb, by unfold maxLen; simp [hy]; omega⟩
  have h := refSum_any p cp k [⟨a, ca, x⟩, ⟨b, cb, y⟩] w (by simp) hl hall (by simp) (by
    intro i hi
    match i, hi with
    | 0, _ => exact hx
    | 1, _ => exact hy) hk
  refine h.mono ?_
  rintro e w' ⟨v, rfl, hown, hb'⟩
  obtain ⟨p', q, rfl, hl', hn⟩ := own_lies hown
  have hsum : sumBl [⟨a, ca, x⟩, ⟨b, cb, y⟩] = xorl x y := by
    simp only [sumBl, sumOf, List.map_cons, List.map_nil, List.headD_cons, sumTo]
    congr 1
    apply List.ext_getElem
    · rw [xorl_length _ _ (by simp [zeros])]; simp [zeros]
    · intro t h1 h2
      simp [xorl, zeros]
  rw [hsum] at hl'
  refine ⟨p', q, rfl, hl', hb', ?_⟩
  rintro c o rfl
  exact (hown.lt c rfl).1

theorem cellA' {w : World} {b o : Nat} {v : Value} (h : w.cell? ⟨b, o, none⟩ = some v) (ob : Obj) : (w.alloc ob).cell? ⟨b, o, none⟩ = some v := by
  have := World.block_lt_of_cell? w _ h
  rw [(bcell ((Below.refl w.heap.size w).alloc (Nat.le_refl _) ob)).1 b o this]
  exact h

theorem frozenA {w : World} {b o : Nat} (h : w.frozen? ⟨b, o, none⟩ = false) (hb : b < w.heap.size) (ob : Obj) : (w.alloc ob).frozen? ⟨b, o, none⟩ = false := by
  rw [(bcell ((Below.refl w.heap.size w).alloc (Nat.le_refl _) ob)).2 b o hb]
  exact h

theorem set2' {w1 : World} {g : Nat} {u v : Value} (h0 : w1.cell? ⟨g, 0, none⟩ = some u) (h1 : w1.cell? ⟨g, 1, none⟩ = some v) (u' v' : Value) :
    ((w1.setCell ⟨g, 0, none⟩ u').setCell ⟨g, 1, none⟩ v').cell? ⟨g, 0, none⟩ = some u' ∧ ((w1.setCell ⟨g, 0, none⟩ u').setCell ⟨g, 1, none⟩ v').cell? ⟨g, 1, none⟩ = some v' := by
  have e0 : (w1.setCell ⟨g, 0, none⟩ u').cell? ⟨g, 0, none⟩ = some u' := World.cell?_setCell_same _ _ _ h0
  have e1 : (w1.setCell ⟨g, 0, none⟩ u').cell? ⟨g, 1, none⟩ = some v := by rw [World.cell?_setCell_other _ _ _ _ (by intro e; cases e)]; exact h1
  exact ⟨by rw [World.cell?_setCell_other _ _ _ _ (by intro e; cases e)]; exact e0, World.cell?_setCell_same _ _ _ e1⟩

theorem own_set {w : World} {B b o : Nat} {e : TypeId} {v u : Value} {n : Nat} {xs : List Value} (h : w.ownsRow B e 1 v n xs) (hb : b < B) : (w.setCell ⟨b, o, none⟩ u).ownsRow B e 1 v n xs := by
  refine ⟨h.1, ?_⟩
  rcases h.2 with h0 | ⟨g, cap, cur, rfl, hbg, hg, hnc, hcm, hcs, htake⟩
  · exact .inl h0
  · exact .inr ⟨g, cap, cur, rfl, hbg, by rw [Below.heap_setCell _ _ _ _ (by simp; omega)]; exact hg, hnc, hcm, hcs, htake⟩

theorem alloc4 (w : World) (o0 o1 o2 o3 : Obj) : ((((w.alloc o0).alloc o1).alloc o2).alloc o3).heap[w.heap.size]? = some o0 ∧ ((((w.alloc o0).alloc o1).alloc o2).alloc o3).heap[w.heap.size + 1]? = some o1 ∧
    ((((w.alloc o0).alloc o1).alloc o2).alloc o3).heap[w.heap.size + 1 + 1]? = some o2 ∧ ((((w.alloc o0).alloc o1).alloc o2).alloc o3).heap[w.heap.size + 1 + 1 + 1]? = some o3 := by
  simp only [heap_alloc_eq, size_alloc_eq]
  refine ⟨?_, ?_, ?_, ?_⟩
  · rw [if_neg (by omega), if_neg (by omega), if_neg (by omega), if_pos (by first | omega | trivial)]
  · rw [if_neg (by omega), if_neg (by omega), if_pos (by first | omega | trivial)]
  · rw [if_neg (by omega), if_pos (by first | omega | trivial)]
  · rw [if_pos (by first | omega | trivial)]

/-- the sum in the making; g: its box -/
def BothInv (W0 wr : World) (g : Nat) (x y : List Bool) (q : Nat) : Prop :=
  Below g W0 wr ∧ g < wr.heap.size ∧ (∃ v, wr.cell? ⟨g, 0, none⟩ = some v ∧ wr.ownsRow (g + 1) 4 1 v q (((xorH x y).map Value.bool).take q)) ∧ wr.cell? ⟨g, 1, none⟩ = some (.slice none 0 0) ∧ (∀ j, wr.frozen? ⟨g, j, none⟩ = false)

theorem BothInv.next {W0 wr w1 : World} {g q cap g' : Nat} {x y : List Bool} {v u : Value} {o : Obj} (hI : BothInv W0 wr g x y q) (hx : ((xorH x y).map Value.bool).take (q + 1) = ((xorH x y).map Value.bool).take q ++ [u]) (hg : g + 1 ≤ wr.heap.size)
    (ho : w1.ownsRow (g + 1) 4 1 (.slice (some ⟨g', 0, none⟩) (q + 1) cap) (q + 1) (((xorH x y).map Value.bool).take q ++ [u])) (hgr : ((wr.alloc o).drew).grownBy w1 v.ownBlock) (hv : wr.cell? ⟨g, 0, none⟩ = some v) (hvb : some g ≠ v.ownBlock) (hlo : ∀ b, v.ownBlock = some b → g < b) :
    BothInv W0 (w1.setCell ⟨g, 0, none⟩ (.slice (some ⟨g', 0, none⟩) (q + 1) cap)) g x y (q + 1) := by
  obtain ⟨i1, i2, ⟨v0, i3, i4⟩, i5, i6⟩ := hI
  have hb1 : Below wr.heap.size wr (wr.alloc o).drew := ((Below.refl _ _).alloc (Nat.le_refl _) o).drew
  have e0 : w1.cell? ⟨g, 0, none⟩ = some v := (hgr.cell_far ⟨g, 0, none⟩ (by simp; omega) hvb).trans (((bcell hb1).1 g 0 i2).trans hv)
  have e1 : w1.cell? ⟨g, 1, none⟩ = some (.slice none 0 0) := (hgr.cell_far ⟨g, 1, none⟩ (by simp; omega) hvb).trans (((bcell hb1).1 g 1 i2).trans i5)
  have e2 : ∀ j, w1.frozen? ⟨g, j, none⟩ = false := fun j => (hgr.frozen_far ⟨g, j, none⟩ (by simp; omega) hvb).trans (((bcell hb1).2 g j i2).trans (i6 j))
  refine ⟨?_, ?_, ⟨_, World.cell?_setCell_same _ _ _ e0, ?_⟩, ?_, fun j => by simpa using e2 j⟩
  · refine Below.setCell ?_ (by simp) _
    refine (i1.trans (hb1.mono (by omega))).grown hgr (by have := i1.size; simp; omega) fun b hb => by have := hlo b hb; omega
  · have := hgr.size
    simp at this ⊢
    omega
  · rw [hx]
    exact own_set ho (by omega)
  · rw [World.cell?_setCell_other _ _ _ _ (by intro e; cases e)]; exact e1

set_option maxHeartbeats 4000000 in
theorem both_any (r s : MRow) (n k : Nat) (w : World) (hr : RowIn w r) (hs : RowIn w s) (h1 : r.h.length = n) (h2 : s.h.length = n) (hn : n ≤ 24) (h3 : r.d.length = k) (h4 : s.d.length = k) (hk : k ≤ 16) :
    Calls Tryd.prog 68 #[.agg #[r.hv, r.dv], .agg #[s.hv, s.dv]] w fun e w' => ∃ t : MRow, e = .returned (.agg #[t.hv, t.dv]) ∧ RowIn w' t ∧ t.h = xorH r.h s.h ∧ t.d = xorl r.d s.d ∧ Below w.heap.size w w' ∧ (∀ b o, t.ha = some ⟨b, o, none⟩ → w.heap.size ≤ b) ∧ (∀ b o, t.da = some ⟨b, o, none⟩ → w.heap.size ≤ b) := by
  obtain ⟨ha, hc, rh, da, dc, rd⟩ := r
  obtain ⟨ha', hc', sh, da', dc', sd⟩ := s
  simp only [MRow.hv, MRow.dv] at *
  subst h1
  rw [h2, h3, h4]
  go_enter Tryd.func68, Tryd.ntmps68
  go_upto_region 2 with fail
  obtain ⟨W0, hW0⟩ : ∃ W0, (((w.alloc (.cells #[.slice ha rh.length hc, .slice da k dc] 62)).alloc (.cells #[.slice ha' rh.length hc', .slice da' k dc'] 62)).alloc (.cells #[.slice none 0 0, .slice none 0 0] 62)).alloc (.cells #[.slice none 0 0, .slice none 0 0] 62) = W0 := ⟨_, rfl⟩
  have hB : Below w.heap.size w W0 := by
    rw [← hW0]
    exact ((((Below.refl _ _).alloc (Nat.le_refl _) _).alloc (by simp) _).alloc (by simp; omega) _).alloc (by simp; omega) _
  have hsz : W0.heap.size = w.heap.size + 4 := by rw [← hW0]; simp
  obtain ⟨blk0, blk1, blk2, blk3⟩ := alloc4 w (.cells #[.slice ha rh.length hc, .slice da k dc] 62) (.cells #[.slice ha' rh.length hc', .slice da' k dc'] 62) (.cells #[.slice none 0 0, .slice none 0 0] 62) (.cells #[.slice none 0 0, .slice none 0 0] 62)
  rw [hW0] at blk0 blk1 blk2 blk3
  have a0 : W0.cell? ⟨w.heap.size, 0, none⟩ = some (.slice ha rh.length hc) := by simp [World.cell?, blk0]
  have a1 : W0.cell? ⟨w.heap.size, 1, none⟩ = some (.slice da k dc) := by simp [World.cell?, blk0]
  have b0 : W0.cell? ⟨w.heap.size + 1, 0, none⟩ = some (.slice ha' rh.length hc') := by simp [World.cell?, blk1]
  have b1 : W0.cell? ⟨w.heap.size + 1, 1, none⟩ = some (.slice da' k dc') := by simp [World.cell?, blk1]
  have r0 : W0.cell? ⟨w.heap.size + 1 + 1, 0, none⟩ = some (.slice none 0 0) := by simp [World.cell?, blk2]
  have r1 : W0.cell? ⟨w.heap.size + 1 + 1, 1, none⟩ = some (.slice none 0 0) := by simp [World.cell?, blk2]
  have rf : ∀ j, W0.frozen? ⟨w.heap.size + 1 + 1, j, none⟩ = false := fun j => by simp [World.frozen?, blk2]
  have H0 : Shut (BothInv W0 W0 (w.heap.size + 1 + 1 + 1) rh sh 0) := by
    exact ⟨⟨Below.refl _ _, by omega, ⟨.slice none 0 0, by simp [World.cell?, blk3], World.ownsRow_nil _ _ _ _⟩, by simp [World.cell?, blk3], fun j => by simp [World.frozen?, blk3]⟩⟩
  rw [hW0]
  clear blk0 blk1 blk2 blk3 hW0
  obtain ⟨i0, hi, hz0, hz1, hz2⟩ := info_parts infoBool
  have hla0 := hr.1
  have hlb0 := hs.1
  have hla := hr.1.below hB (Nat.le_refl _)
  have hlb := hs.1.below hB (Nat.le_refl _)
  have hra := hr.2.1.below hB (Nat.le_refl _)
  have hrb := hs.2.1.below hB (Nat.le_refl _)
  simp only at hla hlb hra hrb hla0 hlb0
  have HX : Shut (W0.cell? ⟨w.heap.size, 0, none⟩ = some (.slice ha rh.length hc) ∧ W0.cell? ⟨w.heap.size, 1, none⟩ = some (.slice da k dc) ∧ W0.cell? ⟨w.heap.size + 1, 0, none⟩ = some (.slice ha' rh.length hc') ∧ W0.cell? ⟨w.heap.size + 1, 1, none⟩ = some (.slice da' k dc') ∧ W0.cell? ⟨w.heap.size + 1 + 1, 0, none⟩ = some (.slice none 0 0) ∧ W0.cell? ⟨w.heap.size + 1 + 1, 1, none⟩ = some (.slice none 0 0)) := ⟨a0, a1, b0, b1, r0, r1⟩
  have HD : Shut (Lies w da (bs rd) ∧ Lies w da' (bs sd)) := ⟨hr.2.1, hs.2.1⟩
  have HS2 := Shut.mk h2
  have HS3 := Shut.mk h3
  have HS4 := Shut.mk h4
  have HSZ := Shut.mk hsz
  clear hr hs a1 b0 b1 r0 r1 h2 h3 h4 hsz
  obtain ⟨g3, e3⟩ : ∃ g3, w.heap.size + 1 + 1 + 1 = g3 := ⟨_, rfl⟩
  obtain ⟨g2, e2⟩ : ∃ g2, w.heap.size + 1 + 1 = g2 := ⟨_, rfl⟩
  obtain ⟨g1, e1⟩ : ∃ g1, w.heap.size + 1 = g1 := ⟨_, rfl⟩
  obtain ⟨g0, e0⟩ : ∃ g0, w.heap.size = g0 := ⟨_, rfl⟩
  have o1 : g0 < g1 := by omega
  have o2 : g1 < g2 := by omega
  have o3 : g2 < g3 := by omega
  have HG := Shut.mk e0
  rw [e3] at H0 ⊢
  rw [e2] at HX rf ⊢
  rw [e1] at HX ⊢
  rw [e0] at HX a0 hB HSZ ⊢
  have hla0 : ∀ b o, ha = some ⟨b, o, none⟩ → 0 < rh.length → b < g0 := fun b o e hp => by
    subst e
    have := World.block_lt_of_cell? w _ (hla0.at (k := 0) (u := .bool rh[0]) (by simp [hp]))
    simp at this
    omega
  have hlb0 : ∀ b o, ha' = some ⟨b, o, none⟩ → 0 < rh.length → b < g0 := fun b o e hp => by
    subst e
    have := World.block_lt_of_cell? w _ (hlb0.at (k := 0) (u := .bool (sh[0]'(by rw [HS2.out]; exact hp))) (by simp [HS2.out, hp]))
    simp at this
    omega
  clear e3 e2 e1 e0
  go_wp2
  clear a0
  go_loopw [10] (fun m wr => ∃ q : Nat, q ≤ rh.length ∧ m = .int .i64 q ∧ Shut (BothInv W0 wr (g3) rh sh q)) (fun m _ => rh.length - (intOf m).toNat)
  case atStart => exact ⟨0, Nat.zero_le _, rfl, H0⟩
  case round =>
    clear H0
    obtain ⟨q, hq, rfl, hI⟩ := hrel
    obtain ⟨i1, i2, ⟨v, i3, i4⟩, i5, i6⟩ := hI.out
    by_cases hlt : q < rh.length
    · have hqs : q < sh.length := by rw [HS2.out]; exact hlt
      obtain ⟨ab, ao, rfl⟩ := hla.some (k := q) (by simpa using hlt)
      obtain ⟨bb, bo, rfl⟩ := hlb.some (k := q) (by simpa using hqs)
      have la : ab < g3 := by have := hla0 ab ao rfl (by omega); omega
      have lb : bb < g3 := by have := hlb0 bb bo rfl (by omega); omega
      have c1 : wr.cell? ⟨ab, ao + q, none⟩ = some (.bool rh[q]) := by rw [i1.cell (p := ⟨ab, ao + q, none⟩) la]; exact hla.at (by simp [hlt])
      have c2 : wr.cell? ⟨bb, bo + q, none⟩ = some (.bool sh[q]) := by rw [i1.cell (p := ⟨bb, bo + q, none⟩) lb]; exact hlb.at (by simp [hqs])
      have c3 : wr.cell? ⟨g0, 0, none⟩ = some (.slice (some ⟨ab, ao, none⟩) rh.length hc) := by rw [i1.cell (p := ⟨g0, 0, none⟩) (by simp; omega)]; exact HX.out.1
      have c4 : wr.cell? ⟨g1, 0, none⟩ = some (.slice (some ⟨bb, bo, none⟩) rh.length hc') := by rw [i1.cell (p := ⟨g1, 0, none⟩) (by simp; omega)]; exact HX.out.2.2.1
      have f1 := i6 0
      have HNX : Shut (((xorH rh sh).map Value.bool).take (q + 1) = ((xorH rh sh).map Value.bool).take q ++ [.bool (rh[q] != sh[q])]) := ⟨by
        have hl : q < ((xorH rh sh).map Value.bool).length := by rw [List.length_map, xorH_length HS2.out]; exact hlt
        rw [List.take_succ_eq_append_getElem hl]
        simp [xorH]⟩
      generalize rh[q]'hlt = X at *
      generalize sh[q]'hqs = Y at *
      have hown : ∀ o, ((wr.alloc o).drew).ownsRow (g3 + 1) 4 1 v q (((xorH rh sh).map Value.bool).take q) := fun o => i4.alloc o
      have hvb : some (g3) ≠ v.ownBlock := fun e => by have := (i4.lt _ e.symm).1; omega
      have HLO : Shut (∀ b, v.ownBlock = some b → g3 < b) := ⟨fun b hb => by have := (i4.lt _ hb).1; omega⟩
      have ne1 : some ab ≠ v.ownBlock := fun e => by have := (i4.lt _ e.symm).1; omega
      have ne2 : some bb ≠ v.ownBlock := fun e => by have := (i4.lt _ e.symm).1; omega
      have ne3 : some g0 ≠ v.ownBlock := fun e => by have := (i4.lt _ e.symm).1; omega
      have ne4 : some (g1) ≠ v.ownBlock := fun e => by have := (i4.lt _ e.symm).1; omega
      have d1 : ¬ g3 = ab := by omega
      have d2 : ¬ g3 = bb := by omega
      have d3 : ¬ g3 = g0 := by omega
      have d4 : ¬ g3 = g1 := by omega
      obtain ⟨pre, hpre⟩ : ∃ pre, ((xorH rh sh).map Value.bool).take q = pre := ⟨_, rfl⟩
      have HPRE := Shut.mk hpre
      simp only [hpre] at hown
      clear hpre
      clear i4 hla hlb hla0 hlb0
      obtain ⟨Z, hZ⟩ : ∃ Z, (X != Y) = Z := ⟨_, rfl⟩
      rw [hZ] at HNX
      have hZ2 : (X == Y) = !Z := by rw [← hZ]; cases X <;> cases Y <;> rfl
      go_wp2
      go_region_law (refine step_append_lies _ rfl (.tmp 14) (.tmp 26) 56 rfl (g3 + 1) 4 i0 (.bool false) 1 1 Tryd.underlying56 hi hz0 hz1 hz2 rfl (by decide) v q pre (by simp [Act.eval, Act.put]) (hown _) ⟨wr.heap.size, 0, none⟩ 1 1 [.bool Z] (by simp [Act.eval, Act.put]) rfl (by intro j u hj; match j, hj with | 0, hj => simp at hj; subst hj; simp [Addr.add]) (by intro u hu; simp at hu; subst hu; rfl) (by decide) (by unfold maxLen; omega) (by omega) (by simp; omega) _ rfl ?_; intro g cap w1 hown1 hgrow hat hlt1; have s1 : w1.cell? ⟨g3, 0, none⟩ = some v := (hgrow.cell_far ⟨g3, 0, none⟩ (by simp; omega) hvb).trans (by simpa using cellA' i3 _); have s2 : w1.frozen? ⟨g3, 0, none⟩ = false := (hgrow.frozen_far ⟨g3, 0, none⟩ (by simp; omega) hvb).trans (by simpa using frozenA f1 i2 _))
      all_goals
        have R := Shut.mk (BothInv.next hI.out HNX.out (by omega) (by rw [HPRE.out]; exact hown1) hgrow i3 hvb HLO.out)
        clear s1 s2 hown1 hgrow hat hlt1 hown c1 c2 c3 c4 f1
        generalize w1.setCell ⟨g3, 0, none⟩ (.slice (some ⟨g, 0, none⟩) (q + 1) cap) = w5 at *
        go_wp2
        exact ⟨⟨q + 1, by omega, by go_num, R⟩, by simp [intOf]; omega⟩
    · obtain rfl : q = rh.length := by omega
      have hxl : ((xorH rh sh).map Value.bool).length = rh.length := by rw [List.length_map, xorH_length HS2.out]
      rw [List.take_of_length_le (by omega)] at i4
      obtain ⟨va, vc, rfl, hlv, hv0⟩ := own_lies i4
      clear hv0 hxl
      have nv : ∀ b o, va = some ⟨b, o, none⟩ → g3 < b := fun b o e => by subst e; have := (i4.lt b rfl).1; omega
      have x1 : wr.cell? ⟨g0, 1, none⟩ = some (.slice da k dc) := by rw [i1.cell (p := ⟨g0, 1, none⟩) (by simp; omega)]; exact HX.out.2.1
      have x2 : wr.cell? ⟨g1, 1, none⟩ = some (.slice da' k dc') := by rw [i1.cell (p := ⟨g1, 1, none⟩) (by simp; omega)]; exact HX.out.2.2.2.1
      have x3 : wr.cell? ⟨g2, 0, none⟩ = some (.slice none 0 0) := by rw [i1.cell (p := ⟨g2, 0, none⟩) (by simp; omega)]; exact HX.out.2.2.2.2.1
      have x4 : wr.cell? ⟨g2, 1, none⟩ = some (.slice none 0 0) := by rw [i1.cell (p := ⟨g2, 1, none⟩) (by simp; omega)]; exact HX.out.2.2.2.2.2
      have xf : ∀ j, wr.frozen? ⟨g2, j, none⟩ = false := fun j => by rw [i1.frozen (p := ⟨g2, j, none⟩) (by simp; omega)]; exact rf j
      have bw : Below g0 w wr := hB.trans (i1.mono (by omega))
      have hra2 : Lies wr da (bs rd) := HD.out.1.below bw (Nat.le_of_eq HG.out)
      have hrb2 : Lies wr da' (bs sd) := HD.out.2.below bw (Nat.le_of_eq HG.out)
      have hlp : Lies (wr.alloc (.cells #[.slice da k dc, .slice da' k dc'] 36)) (some ⟨wr.heap.size, 0, none⟩) [.slice da k dc, .slice da' k dc'] := Lies.alloc_new wr #[.slice da k dc, .slice da' k dc'] 36
      have hS := sum_pair _ _ 2 da dc da' dc' rd sd k hk HS3.out HS4.out hlp (hra2.alloc _) (hrb2.alloc _)
      have bd : Below wr.heap.size wr (wr.alloc (.cells #[.slice da k dc, .slice da' k dc'] 36)) := (Below.refl _ _).alloc (Nat.le_refl _) _
      clear i4 hla hlb hla0 hlb0 hra hrb hlp
      go_wp2_with fail
      refine hS.mono ?_
      rintro e w4 ⟨p4, q4, rfl, hl4, hb4, hn4⟩
      have b4 := bd.trans (hb4.mono bd.size)
      have y0 := ((bcell b4).1 g3 0 i2).trans i3
      have y1 := ((bcell b4).1 g3 1 i2).trans i5
      have yf : ∀ j, w4.frozen? ⟨g3, j, none⟩ = false := fun j => ((bcell b4).2 g3 j i2).trans (i6 j)
      have z0 := ((bcell b4).1 g2 0 (by omega)).trans x3
      have z1 := ((bcell b4).1 g2 1 (by omega)).trans x4
      have zf : ∀ j, w4.frozen? ⟨g2, j, none⟩ = false := fun j => ((bcell b4).2 g2 j (by omega)).trans (xf j)
      have bw4 := bw.trans (b4.mono (by omega))
      have hlv4 := hlv.below b4 (Nat.le_refl _)
      have yf1 := yf 1
      have zf0 := zf 0
      have zf1 := zf 1
      have hs4 := b4.size
      have hs5 := bd.size
      clear hS bd hb4 x1 x2 x3 x4 xf i3 i5 i6 b4 yf zf hlv hra2 hrb2
      go_wp2
      have z0' : (w4.setCell ⟨g3, 1, none⟩ (.slice p4 k q4)).cell? ⟨g2, 0, none⟩ = some (.slice none 0 0) := by rw [World.cell?_setCell_other _ _ _ _ (by intro e; cases e; try omega)]; exact z0
      have z1' : (w4.setCell ⟨g3, 1, none⟩ (.slice p4 k q4)).cell? ⟨g2, 1, none⟩ = some (.slice none 0 0) := by rw [World.cell?_setCell_other _ _ _ _ (by intro e; cases e; try omega)]; exact z1
      obtain ⟨u0, u1⟩ := set2' z0' z1' (.slice va rh.length vc) (.slice p4 k q4)
      have gr2 : (w4.setCell ⟨g3, 1, none⟩ (.slice p4 k q4)).grownBy (((w4.setCell ⟨g3, 1, none⟩ (.slice p4 k q4)).setCell ⟨g2, 0, none⟩ (.slice va rh.length vc)).setCell ⟨g2, 1, none⟩ (.slice p4 k q4)) (some g2) := grown_trans (grown_setCell _ g2 0 _) (grown_setCell _ g2 1 _)
      have L1 : Lies (((w4.setCell ⟨g3, 1, none⟩ (.slice p4 k q4)).setCell ⟨g2, 0, none⟩ (.slice va rh.length vc)).setCell ⟨g2, 1, none⟩ (.slice p4 k q4)) va ((xorH rh sh).map Value.bool) :=
        lies_grown gr2 (lies_grown (grown_setCell w4 g3 1 _) hlv4 fun b o e => by have := nv b o e; omega) fun b o e => by have := nv b o e; omega
      have L2 : Lies (((w4.setCell ⟨g3, 1, none⟩ (.slice p4 k q4)).setCell ⟨g2, 0, none⟩ (.slice va rh.length vc)).setCell ⟨g2, 1, none⟩ (.slice p4 k q4)) p4 (bs (xorl rd sd)) :=
        lies_grown gr2 (lies_grown (grown_setCell w4 g3 1 _) hl4 fun b o e => by have := hn4 b o e; omega) fun b o e => by have := hn4 b o e; omega
      have hbF := ((bw4.setCell (p := ⟨g3, 1, none⟩) (by simp; try omega) (.slice p4 k q4)).setCell (p := ⟨g2, 0, none⟩) (by simp; omega) (.slice va rh.length vc)).setCell (p := ⟨g2, 1, none⟩) (by simp; omega) (.slice p4 k q4)
      generalize ((w4.setCell ⟨g3, 1, none⟩ (.slice p4 k q4)).setCell ⟨g2, 0, none⟩ (.slice va rh.length vc)).setCell ⟨g2, 1, none⟩ (.slice p4 k q4) = w9 at *
      refine bodyPost_ret (v := .agg #[.slice va rh.length vc, .slice p4 k q4]) (by simp [results, Tryd.results68, go_sem, u0, u1]) rfl ?_
      have l1 : (xorH rh sh).length = rh.length := xorH_length HS2.out
      have l2 : (xorl rd sd).length = k := by rw [xorl_length _ _ (by rw [HS3.out, HS4.out]), HS3.out]
      refine ⟨⟨va, vc, xorH rh sh, p4, q4, xorl rd sd⟩, ?_, ⟨L1, L2, ?_, ?_⟩, rfl, rfl, by rw [HG.out]; exact hbF, fun b o e => by have := nv b o e; have := HG.out; omega, fun b o e => by have := hn4 b o e; have := HG.out; omega⟩
      · simp only [l1, l2]
      · simp only [l1]; unfold maxLen; omega
      · simp only [l2]; unfold maxLen; omega

end Go.Proofs.YtkiejflgphjfjacDoor

/-
  Rows in a list of one's own; a row of it is turned.
-/
namespace Go.Proofs.YtkiejflgphjfjacDoor
open Go.RowKit
set_option linter.unusedVariables false
set_option linter.unusedSimpArgs false

/-- rows that lie in a block, all of which may be written -/
def RowsAt (w : World) (g : Nat) (R : List MRow) : Prop := Lies w (some ⟨g, 0, none⟩) (rowCells R) ∧ ∀ j, w.frozen? ⟨g, j, none⟩ = false

theorem RowsAt.cells {w : World} {g j : Nat} {R : List MRow} (h : RowsAt w g R) (hj : j < R.length) : w.cell? ⟨g, j * 2, none⟩ = some R[j].hv ∧ w.cell? ⟨g, j * 2 + 1, none⟩ = some R[j].dv := by
  have := row_at h.1 hj
  simpa using this

theorem RowsAt.of {w : World} {g : Nat} {R : List MRow} (h : ∀ j (hj : j < R.length), w.cell? ⟨g, j * 2, none⟩ = some R[j].hv ∧ w.cell? ⟨g, j * 2 + 1, none⟩ = some R[j].dv) (hf : ∀ j, w.frozen? ⟨g, j, none⟩ = false) : RowsAt w g R := by
  refine ⟨?_, hf⟩
  intro k u hu
  have hk : k < 2 * R.length := by
    have := (List.getElem?_eq_some_iff.1 hu).1
    rwa [rowCells_length] at this
  obtain ⟨c0, c1⟩ := rowCells_get (l := R) (j := k / 2) (by omega)
  obtain ⟨h0, h1⟩ := h (k / 2) (by omega)
  refine ⟨g, 0, rfl, ?_⟩
  rcases Nat.mod_two_eq_zero_or_one k with e | e
  · rw [show 2 * (k / 2) = k by omega, hu] at c0
    rw [show 0 + k = k / 2 * 2 by omega, h0, c0]
  · rw [show 2 * (k / 2) + 1 = k by omega, hu] at c1
    rw [show 0 + k = k / 2 * 2 + 1 by omega, h1, c1]

theorem RowsAt.set {w : World} {g i : Nat} {R : List MRow} (h : RowsAt w g R) (hi : i < R.length) (r : MRow) : RowsAt ((w.setCell ⟨g, i * 2, none⟩ r.hv).setCell ⟨g, i * 2 + 1, none⟩ r.dv) g (R.set i r) := by
  refine RowsAt.of ?_ (fun j => by simpa using h.2 j)
  intro j hj
  simp only [List.length_set] at hj
  obtain ⟨c0, c1⟩ := h.cells hj
  obtain ⟨d0, d1⟩ := h.cells hi
  by_cases e : j = i
  · subst e
    rw [List.getElem_set_self]
    refine ⟨?_, ?_⟩
    · rw [World.cell?_setCell_other _ _ _ _ (by intro e; injection e; omega)]
      exact World.cell?_setCell_same _ _ _ d0
    · have d2 : (w.setCell ⟨g, j * 2, none⟩ r.hv).cell? ⟨g, j * 2 + 1, none⟩ = some R[j].dv := by
        rw [World.cell?_setCell_other _ _ _ _ (by intro e; injection e; omega)]
        exact d1
      exact World.cell?_setCell_same _ _ _ d2
  · rw [List.getElem_set_ne (Ne.symm e)]
    refine ⟨?_, ?_⟩
    · rw [World.cell?_setCell_other _ _ _ _ (by intro e'; injection e'; omega), World.cell?_setCell_other _ _ _ _ (by intro e'; injection e'; omega)]
      exact c0
    · rw [World.cell?_setCell_other _ _ _ _ (by intro e'; injection e'; omega), World.cell?_setCell_other _ _ _ _ (by intro e'; injection e'; omega)]
      exact c1

theorem RowsAt.below {w w' : World} {g : Nat} {R : List MRow} (h : RowsAt w g R) (hb : Below w.heap.size w w') (hg : g < w.heap.size) : RowsAt w' g R :=
  ⟨h.1.below hb (Nat.le_refl _), fun j => by rw [hb.frozen (p := ⟨g, j, none⟩) hg]; exact h.2 j⟩

theorem rows_own {w : World} {B g N cap : Nat} {e : TypeId} {R : List MRow} (h : w.ownsRow B e 2 (.slice (some ⟨g, 0, none⟩) N cap) N (rowCells R)) : RowsAt w g R ∧ B ≤ g ∧ g < w.heap.size ∧ R.length = N ∧ N ≤ cap := by
  obtain ⟨h1, h2 | ⟨g', cap', cur, hv, hb, hg, hn, hc, hs, ht⟩⟩ := h
  · cases h2.1
  · cases hv
    have hlt : g < w.heap.size := by
      rcases Nat.lt_or_ge g w.heap.size with h | h
      · exact h
      · rw [Array.getElem?_eq_none h] at hg; cases hg
    have hl : R.length = N := by rw [rowCells_length] at h1; omega
    refine ⟨RowsAt.of ?_ (fun j => by simp [World.frozen?, hg]), hb, hlt, hl, hn⟩
    intro j hj
    obtain ⟨c0, c1⟩ := rowCells_get hj
    rw [← ht] at c0 c1
    rw [List.getElem?_take, if_pos (by omega)] at c0 c1
    have e0 : cur[j * 2]? = some R[j].hv := by rw [← Array.getElem?_toList, Nat.mul_comm]; exact c0
    have e1 : cur[j * 2 + 1]? = some R[j].dv := by rw [← Array.getElem?_toList, Nat.mul_comm]; exact c1
    exact ⟨by simp [World.cell?, hg, e0], by simp [World.cell?, hg, e1]⟩

end Go.Proofs.YtkiejflgphjfjacDoor
