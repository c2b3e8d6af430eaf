/-
  The reference's CutUp: its contract.
-/
import Derived.Test.YtdhholcbmeoagabDoorCut2
namespace Go.Proofs.YtdhholcbmeoagabDoor
open Go.RowKit
set_option linter.unusedVariables false
set_option linter.unusedSimpArgs false

set_option maxHeartbeats 400000 in
/-- CutUp where something is wrong -/
theorem cutUp_bad (B K : Int) (a : Option Addr) (cap : Nat) (c : List UInt8) (w : World) (hB : I64 B) (hK : I64 K) (hn : c.length ≤ maxLen) (hbad : cutCode B K c ≠ 0) :
    Calls Tryd.prog 28 #[.agg #[.int .i64 B, .int .i64 K], .slice a c.length cap] w fun e w' => e = .returned (.tuple #[.slice none 0 0, .int .i64 (cutCode B K c)]) ∧ Below w.heap.size w w' := by
  unfold maxLen at hn
  by_cases hc : chkP B K = 0
  · have hne : ((c.length : Int) != B) = true := by
      simp [cutCode, hc] at hbad
      simpa using hbad
    have HA : Hid (cutCode B K c = 4) := by
      show cutCode B K c = 4
      simp [cutCode, hc]
      simpa using hne
    clear hbad
    go_enter Tryd.func28, Tryd.ntmps28
    go_wp2_with fail
    refine (checkPlan_any B K _ hB hK).mono ?_
    rintro e w1 ⟨rfl, hb⟩
    obtain ⟨x0, x1⟩ := (Boxed.mk w B K 34).below hb
    have hb := boxBelow hb
    rw [hc]
    go_wp2
    go_ret2
    exact ⟨ret2 rfl (congrArg (Value.int .i64) HA.out.symm), hb⟩
  · have hc' : (chkP B K != 0) = true := by simpa using hc
    have HA : Hid (cutCode B K c = chkP B K) := cutCode_chk hc
    clear hc hbad
    go_enter Tryd.func28, Tryd.ntmps28
    go_wp2_with fail
    refine (checkPlan_any B K _ hB hK).mono ?_
    rintro e w1 ⟨rfl, hb⟩
    have hb := boxBelow hb
    go_wp2
    go_ret2
    exact ⟨ret2 rfl (congrArg (Value.int .i64) HA.out.symm), hb⟩

/-- the value of a block's first j bytes, then noughts -/
def pieceTo (k i j : Nat) (c : List UInt8) (t : Nat) : Value := .int .u8 (((if t < j then (c[i * k + t]?).getD 0 else 0) : UInt8).toNat : Int)

theorem pieceTo_all {k i : Nat} {c : List UInt8} {t : Nat} (h : t < k) : pieceTo k i k c t = u8at (piece k i c) t := by
  simp [pieceTo, u8at, piece_get c h, h]

/-- the values of the blocks that are laid at A -/
def valsAt (A : Nat → Nat) (k m : Nat) : List Value := (List.range m).map fun j => .slice (some ⟨A j, 0, none⟩) k k

def UpInv (w wr : World) (g0 n k : Nat) (c : List UInt8) (v : Value) (m : Nat) : Prop :=
  ∃ A : Nat → Nat, wr.ownsRow (g0 + 1) 36 1 v m (valsAt A k m) ∧ (∀ j, j < m → wr.rowIs (A j) 5 k (u8at (piece k j c))) ∧ Boxed wr g0 n k ∧ Below w.heap.size w wr

/-- within a round: the block at g has its first t bytes -/
def UpMid (wr ws : World) (k m : Nat) (c : List UInt8) (t : Nat) : Prop := ws.rowIs wr.heap.size 5 k (pieceTo k m t c) ∧ Below wr.heap.size wr ws

theorem UpMid.start (wr : World) (k m : Nat) (c : List UInt8) : UpMid wr (wr.alloc (.cells (madeCells #[.int .u8 0] k) 5)) k m c 0 := by
  refine ⟨(World.rowIs_made wr _ k _).congr fun i hi => ?_, (Below.refl _ _).alloc (Nat.le_refl _) _⟩
  simp [pieceTo]

theorem UpMid.set {wr ws : World} {k m t : Nat} {c : List UInt8} (h : UpMid wr ws k m c t) (hc : m * k + t < c.length) : UpMid wr (ws.setCell ⟨wr.heap.size, t, none⟩ (.int .u8 (c[m * k + t].toNat : Int))) k m c (t + 1) := by
  refine ⟨(h.1.set t _).congr fun i hi => ?_, h.2.setCell (Nat.le_refl _) _⟩
  unfold pieceTo
  by_cases e : i = t
  · subst e
    simp [hc]
  · rw [if_neg e]
    by_cases h : i < t
    · rw [if_pos h, if_pos (by omega)]
    · rw [if_neg h, if_neg (by omega)]

theorem UpMid.skip {wr ws : World} {k m t : Nat} {c : List UInt8} (h : UpMid wr ws k m c t) (hc : ¬ m * k + t < c.length) : UpMid wr ws k m c (t + 1) := by
  refine ⟨h.1.congr fun i hi => ?_, h.2⟩
  unfold pieceTo
  by_cases e : i = t
  · subst e
    have : c[m * k + i]? = none := List.getElem?_eq_none (by omega)
    simp [this]
  · by_cases h : i < t
    · rw [if_pos h, if_pos (by omega)]
    · rw [if_neg h, if_neg (by omega)]

/-- a row of bytes is no row of blocks -/
theorem own_ne {w : World} {B : Nat} {v : Value} {n : Nat} {xs : List Value} (h : w.ownsRow B 36 1 v n xs) {b k : Nat} {f : Nat → Value} (hr : w.rowIs b 5 k f) : some b ≠ v.ownBlock := by
  rcases h.2 with ⟨rfl, _⟩ | ⟨g, cap, cur, rfl, hbg, hg, hnc, hcm, hcs, htake⟩
  · intro e; cases e
  · intro e
    simp only [Value.ownBlock, Option.some.injEq] at e
    subst e
    obtain ⟨c, hc, _⟩ := hr
    rw [hg] at hc
    simp at hc

theorem valsAt_succ {A : Nat → Nat} {k m b : Nat} : valsAt A k m ++ [.slice (some ⟨b, 0, none⟩) k k] = valsAt (fun j => if j = m then b else A j) k (m + 1) := by
  unfold valsAt
  rw [List.range_succ, List.map_append]
  congr 1
  · apply List.map_congr_left
    intro j hj
    have : j < m := by simpa using hj
    simp [show ¬ j = m by omega]
  · simp

theorem up_step {w wr ws w1 : World} {g0 n k m : Nat} {c : List UInt8} {v v' : Value} {A : Nat → Nat} {o : Obj} (hg0 : w.heap.size ≤ g0) (h1 : wr.ownsRow (g0 + 1) 36 1 v m (valsAt A k m)) (h2 : ∀ j, j < m → wr.rowIs (A j) 5 k (u8at (piece k j c))) (h3 : Boxed wr g0 n k) (h4 : Below w.heap.size w wr)
    (hm : UpMid wr ws k m c k) (ho : w1.ownsRow (g0 + 1) 36 1 v' (m + 1) (valsAt A k m ++ [.slice (some ⟨wr.heap.size, 0, none⟩) k k])) (hg : (ws.alloc o).grownBy w1 v.ownBlock) : UpInv w w1 g0 n k c v' (m + 1) := by
  obtain ⟨m1, m2⟩ := hm
  have m3 : (ws.alloc o).rowIs wr.heap.size 5 k (pieceTo k m k c) := m1.alloc o
  have b1 : Below wr.heap.size wr (ws.alloc o) := m2.alloc m2.size o
  have o1 := own_below h1 b1
  refine ⟨fun j => if j = m then wr.heap.size else A j, by rw [← valsAt_succ]; exact ho, fun j hj => ?_, ?_, ?_⟩
  · by_cases e : j = m
    · subst e
      simp only [if_pos]
      exact (m3.of_block (hg.block _ m3.lt (own_ne o1 m3))).congr fun i hi => pieceTo_all hi
    · simp only [if_neg e]
      have r := h2 j (by omega)
      have r2 : (ws.alloc o).rowIs (A j) 5 k (u8at (piece k j c)) := r.of_block (b1.block _ r.lt)
      exact r2.of_block (hg.block _ r2.lt (own_ne o1 r2))
  · have x := h3.below b1
    have hne : some g0 ≠ v.ownBlock := fun e => by
      have := (o1.lt g0 e.symm).1
      omega
    have hlt := World.block_lt_of_cell? _ _ x.1
    have hcell : ∀ i, w1.cell? ⟨g0, i, none⟩ = (ws.alloc o).cell? ⟨g0, i, none⟩ := fun i => by
      simp only [World.cell?]
      rw [hg.block g0 hlt hne]
    exact ⟨by rw [hcell]; exact x.1, by rw [hcell]; exact x.2⟩
  · have b2 : Below w.heap.size w (ws.alloc o) := h4.trans (b1.mono h4.size)
    exact b2.grown hg b2.size fun g hg' => by have := (o1.lt g hg').1; omega

set_option maxHeartbeats 2000000 in
/-- CutUp where all is right -/
theorem cutUp_good (B K : Int) (n k nb : Nat) (a : Option Addr) (cap : Nat) (c : List UInt8) (w : World) (hg : Good B K n k nb) (hl : c.length = n) (ha : Lies w a (bs c)) :
    Calls Tryd.prog 28 #[.agg #[.int .i64 B, .int .i64 K], .slice a n cap] w fun e w' => ∃ v A, e = .returned (.tuple #[v, .int .i64 0]) ∧ w'.ownsRow w.heap.size 36 1 v nb (valsAt A k nb) ∧
      (∀ j, j < nb → w'.rowIs (A j) 5 k (u8at (piece k j c))) ∧ Below w.heap.size w w' := by
  obtain ⟨rfl, rfl, n1, n2, k1, k2, eN, b1, b2, lo, hi⟩ := hg
  have hB : I64 n := ⟨by omega, by omega⟩
  have hK : I64 k := ⟨by omega, by omega⟩
  have hc : chkP n k = 0 := chkP_good ⟨rfl, rfl, n1, n2, k1, k2, eN, b1, b2, lo, hi⟩
  have HL : Hid (c.length = n) := hl
  have HC : Hid (chkP n k = 0) := hc
  have HN : Hid (nB n k = nb) := eN
  obtain ⟨i0, hin, hz0, hz1, hz2⟩ := info_parts infoBlk
  have hmk2 := run_make_row' (P := Tryd.prog) 36 5 (.int .u8 0) 1 Tryd.underlying36 infoU8 rfl .i64 .i64 k (by omega) (by omega)
  clear hl hc eN
  go_enter Tryd.func28, Tryd.ntmps28
  go_wp2_with fail
  refine (checkPlan_any n k _ hB hK).mono ?_
  rintro e w1 ⟨rfl, hb⟩
  have hx := (Boxed.mk w n k 34).below hb
  obtain ⟨x0, x1⟩ := hx
  have HX : Hid (Boxed w1 w.heap.size n k) := ⟨x0, x1⟩
  have hb := boxBelow hb
  rw [HC.out]
  go_wp2_with fail
  refine (refBlocks_any n k _ hB hK).mono ?_
  rintro e w2 ⟨rfl, hb2⟩
  rw [HN.out]
  have hx := HX.out.below hb2
  have hb := hb.trans (hb2.mono hb.size)
  clear hb2 x0 x1 HX
  have hI0 : UpInv w w2 w.heap.size n k c (.slice none 0 0) 0 := ⟨fun _ => 0, World.ownsRow_nil _ _ _ _, fun j hj => by omega, hx, hb⟩
  clear hx hb
  go_wp2
  go_loopw [7, 24] (fun v i wr => ∃ m : Nat, m ≤ nb ∧ i = .int .i64 m ∧ Hid (UpInv w wr w.heap.size n k c v m)) (fun _ i _ => nb - (intOf i).toNat)
  case atStart => exact ⟨0, Nat.zero_le _, rfl, hI0⟩
  case round =>
    clear hI0
    obtain ⟨m, hm, rfl, hI⟩ := hrel
    by_cases hlt : m < nb
    · obtain ⟨W0, rfl⟩ : ∃ W0, W0 = wr := ⟨wr, rfl⟩
      obtain ⟨A, i1, i2, i3, i4⟩ := hI.out
      have x1 := i3.2
      have I2 : Hid (∀ j, j < m → W0.rowIs (A j) 5 k (u8at (piece k j c))) := i2
      have I3 : Hid (Boxed W0 w.heap.size n k) := i3
      obtain ⟨p, hp⟩ : ∃ p, p = m * k := ⟨_, rfl⟩
      have hpi : (m : Int) * (k : Int) = (p : Int) := by rw [hp]; simp
      have hpn : p < n := by
        have := Nat.mul_le_mul_right k (show m ≤ nb - 1 by omega)
        omega
      have HP : Hid (p = m * k) := hp
      obtain ⟨ab, ao, rfl⟩ := ha.some (k := 0) (by rw [bs_length, HL.out]; omega)
      clear hI hp i2 i3
      have hM0 := UpMid.start W0 k m c
      go_wp2
      clear x1
      go_loopw [32] (fun j ws => ∃ t : Nat, t ≤ k ∧ j = .int .i64 t ∧ Hid (UpMid W0 ws k m c t)) (fun j _ => k - (intOf j).toNat)
      case atStart => exact ⟨0, Nat.zero_le _, rfl, hM0⟩
      case round =>
        clear hM0
        obtain ⟨t, ht, rfl, hM⟩ := hrel
        by_cases htk : t < k
        · have x1 := (I3.out.below hM.out.2).2
          by_cases hat : p + t < n
          · have hcl : m * k + t < c.length := by rw [HL.out, ← HP.out]; exact hat
            have hbw : Below w.heap.size w wr := i4.trans (hM.out.2.mono i4.size)
            have hc1 : wr.cell? ⟨ab, ao + (p + t), none⟩ = some (.int .u8 (c[m * k + t].toNat : Int)) := by
              rw [HP.out]
              exact (ha.below hbw (Nat.le_refl _)).at (bs_get c _ hcl)
            have y1 := hM.out.1.cell htk
            have y2 := hM.out.1.frozen t
            have HS := Hid.mk' (hM.out.set hcl)
            clear hM hbw
            generalize c[m * k + t].toNat = cv at *
            go_wp2
            go_roundw
            case rel => exact ⟨t + 1, by omega, by go_num, HS⟩
            case measure => simp [intOf]; omega
          · have HS := Hid.mk' (hM.out.skip (by rw [HL.out, ← HP.out]; exact hat))
            clear hM
            go_wp2
            go_roundw
            case rel => exact ⟨t + 1, by omega, by go_num, HS⟩
            case measure => simp [intOf]; omega
        · have htk' : t = k := by omega
          have HM := hM
          rw [htk'] at HM
          have hown := own_below i1 HM.out.2
          have hsz := (i4.trans (HM.out.2.mono i4.size)).size
          have hz := World.block_lt_of_cell? _ _ (I3.out.below HM.out.2).1
          simp only [] at hz
          clear hM htk'
          go_wp2_with (first | (at_builtin; refine wpList_append_own _ rfl _ _ 53 rfl (w.heap.size + 1) 36 i0 (.slice none 0 0) 1 24 Tryd.underlying53 hin hz0 hz1 hz2 rfl (by decide) _ _ _ rfl (hown.alloc _) ⟨wr.heap.size, 0, none⟩ 1 1 [.slice (some ⟨W0.heap.size, 0, none⟩) k k] rfl rfl ?c1 ?c2 ?c3 ?c4 ?c5 ?_) | go_in)
          case c1 =>
            intro j u hj
            match j, hj with
            | 0, hj => simp at hj; subst hj; simp [Addr.add]
          case c2 => intro u hu; simp at hu; subst hu; rfl
          case c3 => unfold maxLen; omega
          case c4 => omega
          case c5 => simp; omega
          intro v' w1 hown' hgrow _
          have HI := Hid.mk' (up_step (Nat.le_refl _) i1 I2.out I3.out i4 HM.out hown' hgrow)
          clear hown' hgrow hown HM
          go_wp2
          go_roundw
          case rel => exact ⟨m + 1, by omega, by go_num, HI⟩
          case measure => simp [intOf]; omega
    · have HMN : Hid (m = nb) := by have : m = nb := by omega
                                    exact this
      go_wp2
      go_ret2
      have h := hI.out
      rw [HMN.out] at h
      obtain ⟨A, j1, j2, j3, j4⟩ := h
      exact ⟨_, A, rfl, own_mono j1 (by omega), j2, j4⟩

def upBl (A : Nat → Nat) (nb k : Nat) (c : List UInt8) : List Blk := (List.range nb).map fun j => ⟨some ⟨A j, 0, none⟩, k, piece k j c⟩

theorem upBl_val (A : Nat → Nat) (nb k : Nat) (c : List UInt8) : (upBl A nb k c).map Blk.val = valsAt A k nb := by
  simp [upBl, valsAt, Blk.val, piece_length, Function.comp_def]

theorem upBl_l (A : Nat → Nat) (nb k : Nat) (c : List UInt8) : (upBl A nb k c).map Blk.l = cutL nb k c := by
  simp [upBl, cutL, Function.comp_def]

/-- the reference's CutUp -/
theorem cutUp_any (B K : Int) (a : Option Addr) (cap : Nat) (c : List UInt8) (w : World) (hB : I64 B) (hK : I64 K) (hn : c.length ≤ maxLen) (ha : Lies w a (bs c)) :
    Calls Tryd.prog 28 #[.agg #[.int .i64 B, .int .i64 K], .slice a c.length cap] w fun e w' => ∃ a' c' bl, e = .returned (.tuple #[.slice a' bl.length c', .int .i64 (cutCode B K c)]) ∧ Lies w' a' (bl.map Blk.val) ∧ AllIn w' bl ∧
      bl.map Blk.l = cutRes B K c ∧ Below w.heap.size w w' := by
  by_cases h : cutCode B K c = 0
  · obtain ⟨n, k, nb, g, hl⟩ := cutCode_zero h
    obtain ⟨e1, e2⟩ := cutCode_good g hl
    rw [hl]
    refine (cutUp_good B K n k nb a cap c w g hl ha).mono ?_
    rintro e w' ⟨v, A, rfl, hown, hbl, hb⟩
    obtain ⟨p, q, rfl, hlies, -⟩ := own_lies hown
    have hlen : (upBl A nb k c).length = nb := by simp [upBl]
    refine ⟨p, q, upBl A nb k c, by rw [hlen, h], by rw [upBl_val]; exact hlies, ?_, by rw [upBl_l, e2], hb⟩
    intro b hb
    obtain ⟨j, hj, rfl⟩ := List.mem_map.1 hb
    have hj : j < nb := by simpa using hj
    refine ⟨row_lies (hbl j hj) (piece_length _ _ _), ?_⟩
    show (piece k j c).length ≤ maxLen
    rw [piece_length]
    have := g.k2
    unfold maxLen
    omega
  · refine (cutUp_bad B K a cap c w hB hK hn h).mono ?_
    rintro e w' ⟨rfl, hb⟩
    exact ⟨none, 0, [], rfl, Lies.nil _ _, fun b hb => by simp at hb, by simp [cutRes, h], hb⟩

end Go.Proofs.YtdhholcbmeoagabDoor
