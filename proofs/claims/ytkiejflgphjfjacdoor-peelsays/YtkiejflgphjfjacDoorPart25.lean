/-
  The reference's Joined: its contract.
-/
import Derived.Test.YtkiejflgphjfjacDoorPart16
import Derived.Test.YtkiejflgphjfjacDoorPart9
namespace Go.Proofs.YtkiejflgphjfjacDoor
open Go.RowKit
set_option linter.unusedVariables false
set_option linter.unusedSimpArgs false

set_option maxHeartbeats 400000 in
/-- Joined where the plan, or the number of blocks, is wrong -/
theorem joined_bad1 (B K : Int) (a : Option Addr) (cap : Nat) (bl : List Blk) (w : World) (hB : I64 B) (hK : I64 K) (hn : bl.length ≤ maxLen) (hbad : chkP B K ≠ 0 ∨ (bl.length : Int) ≠ nB B K) :
    Calls Tryd.prog 40 #[.agg #[.int .i64 B, .int .i64 K], .slice a bl.length cap] w fun e w' => e = .returned (.tuple #[.slice none 0 0, .int .i64 (joinCode B K (bl.map Blk.l))]) ∧ Below w.heap.size w w' := by
  unfold maxLen at hn
  by_cases hc : chkP B K = 0
  · have hne : ((bl.length : Int) != nB B K) = true := by
      have := hbad.resolve_left (by simp [hc])
      simpa using this
    have HA : Hid (joinCode B K (bl.map Blk.l) = 8) := by
      show joinCode B K (bl.map Blk.l) = 8
      have : (bl.length : Int) ≠ nB B K := by simpa using hne
      simp [joinCode, hc, this]
    clear hbad
    go_enter Tryd.func40, Tryd.ntmps40
    go_wp2_with fail
    refine (checkPlan_any B K _ hB hK).mono ?_
    rintro e w1 ⟨rfl, hb⟩
    obtain ⟨x0, x1⟩ := (Boxed.mk w B K 23).below hb
    have hb := boxBelow hb
    rw [hc]
    go_wp2_with fail
    refine (refBlocks_any B K _ hB hK).mono ?_
    rintro e w2 ⟨rfl, hb2⟩
    have hb := hb.trans (hb2.mono hb.size)
    go_wp2
    go_ret2
    exact ⟨ret2 rfl (congrArg (Value.int .i64) HA.out.symm), hb⟩
  · have hc' : (chkP B K != 0) = true := by simpa using hc
    have HA : Hid (joinCode B K (bl.map Blk.l) = chkP B K) := joinCode_chk hc
    clear hc hbad
    go_enter Tryd.func40, Tryd.ntmps40
    go_wp2_with fail
    refine (checkPlan_any B K _ hB hK).mono ?_
    rintro e w1 ⟨rfl, hb⟩
    have hb := boxBelow hb
    go_wp2
    go_ret2
    exact ⟨ret2 rfl (congrArg (Value.int .i64) HA.out.symm), hb⟩

theorem zero_step {l : List UInt8} {n m : Nat} (hnm : n ≤ m) (hm : m < l.length) (h : Hid (allZero ((l.drop n).take (m - n)) = true)) (hz : ((l[m].toNat : Int) != 0) = false) : allZero ((l.drop n).take (m + 1 - n)) = true := by
  have e : m + 1 - n = (m - n) + 1 := by omega
  rw [e, List.take_succ_eq_append_getElem (by simp; omega)]
  have h2 := h.out
  simp only [allZero, List.all_append, Bool.and_eq_true] at h2 ⊢
  refine ⟨h2, ?_⟩
  have e2 : (l.drop n)[m - n]'(by simp; omega) = l[m] := by
    rw [List.getElem_drop]
    congr 1
    omega
  rw [e2, u8_zero hz]
  rfl

theorem zero_no {l : List UInt8} {n m : Nat} (hnm : n ≤ m) (hm : m < l.length) (hz : ((l[m].toNat : Int) != 0) = true) : allZero (l.drop n) = false := by
  have e2 : (l.drop n)[m - n]'(by simp; omega) = l[m] := by
    rw [List.getElem_drop]
    congr 1
    omega
  exact allZero_no (k := m - n) (by simp; omega) (by rw [e2]; exact hz)

set_option maxHeartbeats 2000000 in
/-- Joined of a plan that fits, and as many blocks -/
theorem joined_good (B K : Int) (n k nb : Nat) (a : Option Addr) (cap : Nat) (bl : List Blk) (w : World) (hg : Good B K n k nb) (hl : bl.length = nb) (htot : ((bl.map Blk.l).flatten).length ≤ 1048576) (ha : Lies w a (bl.map Blk.val)) (hall : AllIn w bl) :
    Calls Tryd.prog 40 #[.agg #[.int .i64 B, .int .i64 K], .slice a nb cap] w fun e w' => ∃ a' c', e = .returned (.tuple #[.slice a' (joinRes B K (bl.map Blk.l)).length c', .int .i64 (joinCode B K (bl.map Blk.l))]) ∧
      Lies w' a' (bs (joinRes B K (bl.map Blk.l))) ∧ Below w.heap.size w w' := by
  have G : Hid (Good B K n k nb) := hg
  obtain ⟨rfl, rfl, n1, n2, k1, k2, eN, b1, b2, lo, hi⟩ := hg
  have hB : I64 n := ⟨by omega, by omega⟩
  have hK : I64 k := ⟨by omega, by omega⟩
  have HC : Hid (chkP n k = 0) := chkP_good G.out
  have HL : Hid (bl.length = nb) := hl
  have HN : Hid (nB n k = nb) := eN
  have HT : Hid (((bl.map Blk.l).flatten).length ≤ 1048576) := htot
  have hself : ((nb : Int) != (nb : Int)) = false := by simp
  obtain ⟨b1', o1', rfl⟩ := ha.some (k := 0) (by simp; omega)
  clear hl eN htot
  go_enter Tryd.func40, Tryd.ntmps40
  go_wp2_with fail
  refine (checkPlan_any n k _ hB hK).mono ?_
  rintro e w1 ⟨rfl, hb⟩
  obtain ⟨x0, x1⟩ := (Boxed.mk w n k 23).below hb
  have HX : Hid (Boxed w1 w.heap.size n k) := ⟨x0, x1⟩
  have hb := boxBelow hb
  rw [HC.out]
  go_wp2_with fail
  refine (refBlocks_any n k _ hB hK).mono ?_
  rintro e w2 ⟨rfl, hb2⟩
  rw [HN.out]
  have HX := HX.out.below hb2
  have hb := hb.trans (hb2.mono hb.size)
  clear hb2 x0 x1
  go_wp2_with fail
  have hcon := concat_any _ cap bl w2 (by rw [HL.out]; unfold maxLen; omega) HT.out (ha.below hb (Nat.le_refl _)) (hall.below hb)
  rw [HL.out] at hcon
  refine hcon.mono ?_
  clear hcon
  rintro e w3 ⟨v3, rfl, ho3, hb3⟩
  obtain ⟨p3, q3, rfl, hq3⟩ := own_slice ho3
  obtain ⟨p3', q3', e3, hl3, -⟩ := own_lies ho3
  simp at e3
  obtain ⟨rfl, rfl⟩ := e3
  obtain ⟨x0, x1⟩ := HX.below hb3
  have hb := hb.trans (hb3.mono hb.size)
  clear ho3 hb3 HX
  obtain ⟨T, hT⟩ : ∃ T, T = ((bl.map Blk.l).flatten).length := ⟨_, rfl⟩
  rw [← hT] at hq3 ⊢
  have HTT : Hid (T = ((bl.map Blk.l).flatten).length) := hT
  have hT2 : T ≤ 1048576 := by rw [hT]; exact HT.out
  clear hT
  go_wp2
  go_loop [25] (fun i => ∃ m : Nat, m ≤ nb ∧ i = .int .i64 m ∧ Hid (lenTo k bl m)) (fun i => nb - (intOf i).toNat)
  case atStart => exact ⟨0, Nat.zero_le _, rfl, fun j hj h => by omega⟩
  case round =>
    obtain ⟨m, hm, rfl, hlen⟩ := hrel
    by_cases hlt : m < nb
    · have hml : m < bl.length := by rw [HL.out]; exact hlt
      have hc1 : w3.cell? ⟨b1', o1' + m, none⟩ = some (.slice bl[m].a bl[m].l.length bl[m].cap) := (ha.below hb (Nat.le_refl _)).at (by simp [hml, Blk.val])
      have hbb := (hall bl[m] (by simp)).2
      unfold maxLen at hbb
      cases hne : ((bl[m].l.length : Int) != (k : Int)) with
      | true =>
        have HJ : Hid (joinCode n k (bl.map Blk.l) = 4) := joinCode_len G.out HL.out hml (by simp at hne; omega)
        go_wp2
        go_ret2
        exact ⟨none, ⟨0, by simp [joinRes, HJ.out]⟩, by simp [joinRes, HJ.out, bs, Lies.nil], hb⟩
      | false =>
        have HE : Hid (bl[m].l.length = k) := by
          show bl[m].l.length = k
          simp at hne
          omega
        go_wp2
        go_round
        case rel => exact ⟨m + 1, by omega, by go_num, lenTo_succ hlen.out hml HE.out⟩
        case measure => simp [intOf]; omega
    · have HA : Hid (∀ b ∈ bl.map Blk.l, b.length = k) := lenTo_all hlen.out (by rw [HL.out]; omega)
      have hTn : n ≤ T := by
        rw [HTT.out, flatten_length_of HA.out]
        simp only [List.length_map, HL.out]
        exact hi
      clear hlen
      go_wp2
      clear hm hlt
      go_loop [10] (fun i => ∃ m : Nat, n ≤ m ∧ m ≤ T ∧ i = .int .i64 m ∧ Hid (allZero (((bl.map Blk.l).flatten.drop n).take (m - n)) = true)) (fun i => T - (intOf i).toNat)
      case atStart => exact ⟨n, Nat.le_refl _, hTn, rfl, show allZero (((bl.map Blk.l).flatten.drop n).take (n - n)) = true by simp [allZero]⟩
      case round =>
        obtain ⟨m, hnm, hm, rfl, hz⟩ := hrel
        by_cases hlt : m < T
        · have hml : m < (bl.map Blk.l).flatten.length := by rw [← HTT.out]; exact hlt
          obtain ⟨fl, hfl⟩ : ∃ fl, fl = (bl.map Blk.l).flatten := ⟨_, rfl⟩
          have HFL : Hid (fl = (bl.map Blk.l).flatten) := hfl
          rw [← hfl] at hml hz hl3
          clear hfl
          obtain ⟨b3, o3, rfl⟩ := hl3.some (k := m) (by rw [bs_length]; exact hml)
          have hc1 : w3.cell? ⟨b3, o3 + m, none⟩ = some (.int .u8 (fl[m].toNat : Int)) := hl3.at (bs_get fl m hml)
          cases hne : ((fl[m].toNat : Int) != 0) with
          | true =>
            have HJ : Hid (joinCode n k (bl.map Blk.l) = 4) := joinCode_zero4 G.out (by simpa using HL.out) HA.out (by rw [← HFL.out]; exact zero_no hnm hml hne)
            go_wp2
            go_ret2
            exact ⟨none, ⟨0, by simp [joinRes, HJ.out]⟩, by simp [joinRes, HJ.out, bs, Lies.nil], hb⟩
          | false =>
            have HZ : Hid (allZero (((bl.map Blk.l).flatten.drop n).take (m + 1 - n)) = true) := by
              have := zero_step hnm hml hz hne
              rw [HFL.out] at this
              exact this
            go_wp2
            go_round
            case rel => exact ⟨m + 1, by omega, by omega, by go_num, HZ⟩
            case measure => simp [intOf]; omega
        · have HJ : Hid (joinCode n k (bl.map Blk.l) = 0 ∧ joinRes n k (bl.map Blk.l) = (bl.map Blk.l).flatten.take n) := joinCode_good G.out (by simpa using HL.out) HA.out (by
            have := hz.out
            rwa [List.take_of_length_le (by rw [List.length_drop, ← HTT.out]; omega)] at this)
          have hnq : (n : Int) ≤ (q3 : Int) := by omega
          clear hz
          go_wp2
          go_ret2
          have hll : (joinRes n k (bl.map Blk.l)).length = n := by
            rw [HJ.out.2, List.length_take, ← HTT.out]
            omega
          rw [hll, HJ.out.1, HJ.out.2]
          exact ⟨p3, ⟨q3, rfl⟩, hl3.takeB n, hb⟩

/-- the reference's Joined -/
theorem joined_any (B K : Int) (a : Option Addr) (cap : Nat) (bl : List Blk) (w : World) (hB : I64 B) (hK : I64 K) (hn : bl.length ≤ maxLen) (htot : ((bl.map Blk.l).flatten).length ≤ 1048576) (ha : Lies w a (bl.map Blk.val)) (hall : AllIn w bl) :
    Calls Tryd.prog 40 #[.agg #[.int .i64 B, .int .i64 K], .slice a bl.length cap] w fun e w' => ∃ a' c', e = .returned (.tuple #[.slice a' (joinRes B K (bl.map Blk.l)).length c', .int .i64 (joinCode B K (bl.map Blk.l))]) ∧
      Lies w' a' (bs (joinRes B K (bl.map Blk.l))) ∧ Below w.heap.size w w' := by
  by_cases hbad : chkP B K ≠ 0 ∨ (bl.length : Int) ≠ nB B K
  · have hne : joinCode B K (bl.map Blk.l) ≠ 0 := by
      by_cases hc : chkP B K = 0
      · have := hbad.resolve_left (by simp [hc])
        simp [joinCode, hc, this]
      · rw [joinCode_chk hc]; exact hc
    refine (joined_bad1 B K a cap bl w hB hK hn hbad).mono ?_
    rintro e w' ⟨rfl, hb⟩
    have er : joinRes B K (bl.map Blk.l) = [] := if_neg hne
    rw [er]
    exact ⟨none, 0, rfl, Lies.nil _ _, hb⟩
  · have h1 : chkP B K = 0 := Classical.byContradiction fun h => hbad (.inl h)
    have h2 : (bl.length : Int) = nB B K := Classical.byContradiction fun h => hbad (.inr h)
    obtain ⟨n, k, nb, g⟩ := good_of h1
    have hl : bl.length = nb := by have := g.eN; omega
    rw [hl]
    exact joined_good B K n k nb a cap bl w g hl htot ha hall

end Go.Proofs.YtkiejflgphjfjacDoor
