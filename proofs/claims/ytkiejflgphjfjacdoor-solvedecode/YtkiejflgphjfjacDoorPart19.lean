import Derived.Test.YtkiejflgphjfjacDoorPart7
import Derived.Lib.AppendZeros
import Derived.Test.YtkiejflgphjfjacDoorPart14
/-
  slices.Grow of nothing and slices.Concat of blocks: the contract of each.
-/
namespace Go.Proofs.YtkiejflgphjfjacDoor
open Go.RowKit
set_option linter.unusedVariables false
set_option linter.unusedSimpArgs false

theorem zeroCells_size (z : Value) (n : Nat) : (Builtin.zeroCells #[z] n).size = n := by simp [Builtin.zeroCells]

set_option maxRecDepth 8000 in
set_option maxHeartbeats 1000000 in
theorem grow_nil (s : Nat) (w : World) (hs : s ≤ 1048576) :
    Calls Tryd.prog 85 #[.slice none 0 0, .int .i64 s] w fun e w' => ∃ v, e = .returned v ∧ w'.ownsRow w.heap.size 5 1 v 0 [] ∧ Below w.heap.size w w' := by
  obtain ⟨i0, hi, hz0, hz1, hz2⟩ := info_parts infoU8
  by_cases h0 : s = 0
  · subst h0
    go_enter Tryd.func85, Tryd.ntmps85
    go_wp2
    go_ret
    exact ⟨_, rfl, World.ownsRow_nil _ _ _ _, Below.refl _ _⟩
  · have h1 : 0 < s := by omega
    have h2 : (0 : Int) < (s : Int) := by omega
    clear h0
    have hrz : ∀ ty, (Builtin.append_ #[36, 3] ty #[.slice none 0 0, .int .i64 s]).run Tryd.prog w = .ok (.slice (some ⟨w.heap.size, 0, none⟩) s (grownCap w s 0 5)) (w.drew.alloc (.cells (Builtin.zeroCells #[.int .u8 0] s ++ Builtin.zeroCells #[.int .u8 0] (grownCap w s 0 5 - s)) 5)) := fun ty =>
      Lib.run_append_nil_zeros w 36 3 ty 5 i0 (.int .u8 0) .i64 .i64 Tryd.underlying36 Tryd.underlying3 hi hz0 s h1 (by omega) (by omega) (by rw [hz2]; omega)
    have hGn : s ≤ grownCap w s 0 5 := grownCap_ge w _ _ _
    have hG63 := grownCap_le_maxLen w s 0 5 (by unfold maxLen; omega)
    have HR : Hid ((w.drew.alloc (.cells (Builtin.zeroCells #[.int .u8 0] s ++ Builtin.zeroCells #[.int .u8 0] (grownCap w s 0 5 - s)) 5)).ownsRow w.heap.size 5 1 (.slice (some ⟨w.heap.size, 0, none⟩) 0 (grownCap w s 0 5)) 0 []) :=
      ⟨rfl, .inr ⟨w.heap.size, _, _, rfl, Nat.le_refl _, (heap_alloc_eq w.drew _ _).trans (if_pos rfl), Nat.zero_le _, hG63, by simp [zeroCells_size]; omega, rfl⟩⟩
    generalize grownCap w s 0 5 = G at *
    unfold maxLen at hG63
    have hG : (G : Int) ≤ 9223372036854775807 := by omega
    clear hG63
    go_enter Tryd.func85, Tryd.ntmps85
    go_wp2_with (at_builtin; refine Lib.wpList_append_run _ rfl _ _ _ _ rfl _ _ rfl rfl _ _ (hrz _) ?_)
    all_goals
      go_ret
      exact ⟨_, rfl, HR.out, (Below.refl _ _).drew.alloc (Nat.le_refl _) _⟩

theorem storeCells_nil {P : Program} (w : World) (a : Addr) (i : Nat) : (storeCells a [] i).run P w = .ok () w := rfl

/-- append of a slice that has nothing -/
theorem run_append_nothing {P : Program} (w : World) (t ty e : TypeId) (i : TypeInfo) (ht : P.underlying t = some (.slice e)) (hi : P.info? e = some i) (base : Option Addr) (n cap c : Nat) (h : n ≤ cap) :
    (Builtin.append_ #[t, t] ty #[.slice base n cap, .slice none 0 c]).run P w = .ok (.slice base n cap) w := by
  cases base with
  | none => simp [Builtin.append_, run_underlying ht, sizeOf, typeInfo, hi, Builtin.lenOf, Builtin.firstCells, h]
  | some a => simp [Builtin.append_, run_underlying ht, sizeOf, typeInfo, hi, Builtin.lenOf, Builtin.firstCells, h, storeCells_nil]

/-- how many bytes the first m have -/
def totTo (bl : List Blk) (m : Nat) : Nat := (((bl.map Blk.l).take m).flatten).length

theorem totTo_succ {bl : List Blk} {m : Nat} (h : m < bl.length) : totTo bl (m + 1) = totTo bl m + bl[m].l.length := by
  unfold totTo
  rw [List.take_succ_eq_append_getElem (by simpa using h)]
  simp

theorem totTo_le (bl : List Blk) (m : Nat) : totTo bl m ≤ ((bl.map Blk.l).flatten).length := by
  unfold totTo
  have h := congrArg (fun l => l.flatten.length) (List.take_append_drop m (bl.map Blk.l))
  simp only [List.flatten_append, List.length_append] at h
  omega

theorem concat_step {w wr w1 : World} {v v' : Value} {bl : List Blk} {m : Nat} (hlt : m < bl.length) (hb : Below w.heap.size w wr) (ho : wr.ownsRow w.heap.size 5 1 v (totTo bl m) (bs ((bl.map Blk.l).take m).flatten))
    (ho' : w1.ownsRow w.heap.size 5 1 v' (totTo bl m + bl[m].l.length) (bs ((bl.map Blk.l).take m).flatten ++ bs bl[m].l)) (hg : wr.grownBy w1 v.ownBlock) :
    w1.ownsRow w.heap.size 5 1 v' (totTo bl (m + 1)) (bs ((bl.map Blk.l).take (m + 1)).flatten) ∧ Below w.heap.size w w1 := by
  refine ⟨?_, hb.grown hg hb.size fun g hg' => (ho.lt g hg').1⟩
  rw [totTo_succ hlt, List.take_succ_eq_append_getElem (by simpa using hlt)]
  simpa [bs] using ho'

theorem lies_none {w : World} {l : List UInt8} (h : Lies w none (bs l)) : l = [] := by
  cases l with
  | nil => rfl
  | cons x r =>
    obtain ⟨_, _, e, _⟩ := h 0 _ (by simp [bs]; rfl)
    simp at e

theorem lies_add {w : World} {ad : Addr} {l : List UInt8} (h : Lies w (some ad) (bs l)) : ∀ j u, (bs l)[j]? = some u → w.cell? (ad.add j) = some u := by
  intro j u hu
  obtain ⟨b, o, e, hc⟩ := h j u hu
  simp at e
  subst e
  simpa [Addr.add_lit] using hc

theorem own_none {w : World} {B : Nat} {e : TypeId} {n q : Nat} {xs : List Value} (h : w.ownsRow B e 1 (.slice none n q) n xs) : q = 0 := by
  rcases h.2 with ⟨e1, h0⟩ | ⟨g, cap, cur, e1, hb, hg, hnc, hcm, hcs, htake⟩
  · simp at e1
    exact e1.2
  · simp at e1

set_option maxRecDepth 8000 in
set_option maxHeartbeats 1000000 in
theorem concat_any (a : Option Addr) (cap : Nat) (bl : List Blk) (w : World) (hn : bl.length ≤ maxLen) (htot : ((bl.map Blk.l).flatten).length ≤ 1048576) (ha : Lies w a (bl.map Blk.val)) (hall : AllIn w bl) :
    Calls Tryd.prog 69 #[.slice a bl.length cap] w fun e w' => ∃ v, e = .returned v ∧ w'.ownsRow w.heap.size 5 1 v ((bl.map Blk.l).flatten).length (bs (bl.map Blk.l).flatten) ∧ Below w.heap.size w w' := by
  obtain ⟨i0, hi, hz0, hz1, hz2⟩ := info_parts infoU8
  have HT : Hid (((bl.map Blk.l).flatten).length ≤ 1048576) := htot
  unfold maxLen at hn
  clear htot
  go_enter Tryd.func69, Tryd.ntmps69
  go_wp2
  go_loop [3, 11] (fun c i => ∃ m : Nat, m ≤ bl.length ∧ i = .int .i64 m ∧ c = .int .i64 (totTo bl m)) (fun _ i => bl.length - (intOf i).toNat)
  case atStart => exact ⟨0, Nat.zero_le _, rfl, rfl⟩
  case round =>
    obtain ⟨m, hm, rfl, rfl⟩ := hrel
    by_cases hlt : m < bl.length
    · obtain ⟨b1, o1, rfl⟩ := ha.some (k := m) (by simpa using hlt)
      have h1 : w.cell? ⟨b1, o1 + m, none⟩ = some (.slice bl[m].a bl[m].l.length bl[m].cap) := ha.at (by simp [hlt, Blk.val])
      have hs := totTo_succ hlt
      have hle := totTo_le bl (m + 1)
      have := HT.out
      have hb1 : totTo bl m ≤ 1048576 := by omega
      have hb2 : bl[m].l.length ≤ 1048576 := by omega
      have HS : Hid (totTo bl (m + 1) = totTo bl m + bl[m].l.length) := hs
      clear hs hle this
      go_wp2
      go_round
      case rel => exact ⟨m + 1, by omega, by go_num, congrArg (Value.int .i64) (by rw [HS.out]; simp)⟩
      case measure => simp [intOf]; omega
    · have HM : Hid (m = bl.length) := by have : m = bl.length := by omega
                                          exact this
      have hle := totTo_le bl m
      have := HT.out
      have hb1 : totTo bl m ≤ 1048576 := by omega
      clear hle this
      go_wp2_with fail
      refine (grow_nil _ _ hb1).mono ?_
      rintro e w1 ⟨v1, rfl, ho1, hb⟩
      clear hb1
      go_wp2
      go_loopw [6, 27] (fun v i wr => ∃ m : Nat, m ≤ bl.length ∧ i = .int .i64 m ∧ wr.ownsRow w.heap.size 5 1 v (totTo bl m) (bs ((bl.map Blk.l).take m).flatten) ∧ Below w.heap.size w wr) (fun _ i _ => bl.length - (intOf i).toNat)
      case atStart => exact ⟨0, Nat.zero_le _, rfl, ho1, hb⟩
      case round =>
        clear ho1 hb
        obtain ⟨m, hm, rfl, hown, hbw⟩ := hrel
        by_cases hlt : m < bl.length
        · obtain ⟨b1, o1, rfl⟩ := ha.some (k := m) (by simpa using hlt)
          have h1 : wr.cell? ⟨b1, o1 + m, none⟩ = some (.slice bl[m].a bl[m].l.length bl[m].cap) := (ha.below hbw (Nat.le_refl _)).at (by simp [hlt, Blk.val])
          have hla := (hall bl[m] (by simp)).1.below hbw (Nat.le_refl _)
          have hsz := hbw.size
          have hs := totTo_succ hlt
          have hle := totTo_le bl (m + 1)
          have := HT.out
          have hb1 : totTo bl m + bl[m].l.length ≤ 1048576 := by omega
          have HS : Hid (totTo bl (m + 1) = totTo bl m + bl[m].l.length) := hs
          clear hs hle this
          cases had : bl[m].a with
          | none =>
            rw [had] at h1 hla
            have HE : Hid (bl[m].l = []) := lies_none hla
            have h0 : bl[m].l.length = 0 := by rw [HE.out]; rfl
            rw [h0] at h1
            obtain ⟨p6, q6, rfl, hq6⟩ := own_slice hown
            have hq : p6 = none → q6 = 0 := fun e => by subst e; exact own_none hown
            have R : Hid (wr.ownsRow w.heap.size 5 1 (.slice p6 (totTo bl m) q6) (totTo bl (m + 1)) (bs ((bl.map Blk.l).take (m + 1)).flatten)) := by
              show wr.ownsRow w.heap.size 5 1 (.slice p6 (totTo bl m) q6) (totTo bl (m + 1)) (bs ((bl.map Blk.l).take (m + 1)).flatten)
              rw [HS.out, List.take_succ_eq_append_getElem (by simpa using hlt)]
              simpa [h0, HE.out] using hown
            clear had hla h0 hown hb1
            go_wp2_with (first | (at_builtin; refine Lib.wpList_append_run _ rfl _ _ _ _ rfl _ _ rfl rfl _ _ (run_append_nothing _ _ _ 5 i0 Tryd.underlying36 hi _ _ _ _ hq6) ?_) | go_in)
            go_roundw
            case rel => exact ⟨m + 1, by omega, by go_num, R.out, hbw⟩
            case measure => simp [intOf]; omega
          | some ad =>
            rw [had] at h1 hla
            clear had
            go_wp2_with (first | (at_builtin; refine wpList_append_own _ rfl _ _ 36 rfl w.heap.size 5 i0 (.int .u8 0) 1 1 Tryd.underlying36 hi hz0 hz1 hz2 rfl (by decide) _ _ _ rfl hown ad bl[m].l.length bl[m].cap (bs bl[m].l) rfl ?c0 ?c1 ?c2 ?c3 ?c4 ?c5 ?_) | go_in)
            case c0 => simp [bs_length]
            case c1 => exact lies_add hla
            case c2 =>
              intro u hu
              obtain ⟨x, _, rfl⟩ := List.mem_map.1 hu
              rfl
            case c3 => unfold maxLen; omega
            case c4 => omega
            case c5 => omega
            intro v' w1 hown' hgrow _
            have R := concat_step hlt hbw hown hown' hgrow
            clear hown' hgrow hown hbw h1 hla
            go_wp2
            go_roundw
            case rel => exact ⟨m + 1, by omega, by go_num, R.1, R.2⟩
            case measure => simp [intOf]; omega
        · have HK : Hid (m = bl.length) := by have : m = bl.length := by omega
                                              exact this
          go_wp2
          go_ret
          refine ⟨_, rfl, ?_, hbw⟩
          have hk := HK.out
          subst hk
          unfold totTo at hown
          rwa [List.take_of_length_le (by simp)] at hown

end Go.Proofs.YtkiejflgphjfjacDoor

/-
  The reference's Joined: its contract.
-/
namespace Go.Proofs.YtkiejflgphjfjacDoor
open Go.RowKit
set_option linter.unusedVariables false
set_option linter.unusedSimpArgs false

set_option maxHeartbeats 400000 in
/-- Joined where the plan, or the number of blocks, is wrong -/
theorem joined_bad1 (B K : Int) (a : Option Addr) (cap : Nat) (bl : List Blk) (w : World) (hB : I64 B) (hK : I64 K) (hn : bl.length ≤ maxLen) (hbad : chkP B K ≠ 0 ∨ (bl.length : Int) ≠ nB B K) :
    Calls Tryd.prog 40 #[.agg #[.int .i64 B, .int .i64 K], .slice a bl.length cap] w fun e w' => e = .returned (.tuple #[.slice none 0 0, .int .i64 (joinCode B K (bl.map Blk.l))]) ∧ Below w.heap.size w w' := by
  unfold maxLen at hn
  by_cases hc : chkP B K = 0
  · have hne : ((bl.length : Int) != nB B K) = true := by
      have := hbad.resolve_left (by simp [hc])
      simpa using this
    have HA : Hid (joinCode B K (bl.map Blk.l) = 8) := by
      show joinCode B K (bl.map Blk.l) = 8
      have : (bl.length : Int) ≠ nB B K := by simpa using hne
      simp [joinCode, hc, this]
    clear hbad
    go_enter Tryd.func40, Tryd.ntmps40
    go_wp2_with fail
    refine (checkPlan_any B K _ hB hK).mono ?_
    rintro e w1 ⟨rfl, hb⟩
    obtain ⟨x0, x1⟩ := (Boxed.mk w B K 23).below hb
    have hb := boxBelow hb
    rw [hc]
    go_wp2_with fail
    refine (refBlocks_any B K _ hB hK).mono ?_
    rintro e w2 ⟨rfl, hb2⟩
    have hb := hb.trans (hb2.mono hb.size)
    go_wp2
    go_ret2
    exact ⟨ret2 rfl (congrArg (Value.int .i64) HA.out.symm), hb⟩
  · have hc' : (chkP B K != 0) = true := by simpa using hc
    have HA : Hid (joinCode B K (bl.map Blk.l) = chkP B K) := joinCode_chk hc
    clear hc hbad
    go_enter Tryd.func40, Tryd.ntmps40
    go_wp2_with fail
    refine (checkPlan_any B K _ hB hK).mono ?_
    rintro e w1 ⟨rfl, hb⟩
    have hb := boxBelow hb
    go_wp2
    go_ret2
    exact ⟨ret2 rfl (congrArg (Value.int .i64) HA.out.symm), hb⟩

theorem zero_step {l : List UInt8} {n m : Nat} (hnm : n ≤ m) (hm : m < l.length) (h : Hid (allZero ((l.drop n).take (m - n)) = true)) (hz : ((l[m].toNat : Int) != 0) = false) : allZero ((l.drop n).take (m + 1 - n)) = true := by
  have e : m + 1 - n = (m - n) + 1 := by omega
  rw [e, List.take_succ_eq_append_getElem (by simp; omega)]
  have h2 := h.out
  simp only [allZero, List.all_append, Bool.and_eq_true] at h2 ⊢
  refine ⟨h2, ?_⟩
  have e2 : (l.drop n)[m - n]'(by simp; omega) = l[m] := by
    rw [List.getElem_drop]
    congr 1
    omega
  rw [e2, u8_zero hz]
  rfl

theorem zero_no {l : List UInt8} {n m : Nat} (hnm : n ≤ m) (hm : m < l.length) (hz : ((l[m].toNat : Int) != 0) = true) : allZero (l.drop n) = false := by
  have e2 : (l.drop n)[m - n]'(by simp; omega) = l[m] := by
    rw [List.getElem_drop]
    congr 1
    omega
  exact allZero_no (k := m - n) (by simp; omega) (by rw [e2]; exact hz)

set_option maxHeartbeats 2000000 in
/-- Joined of a plan that fits, and as many blocks -/
theorem joined_good (B K : Int) (n k nb : Nat) (a : Option Addr) (cap : Nat) (bl : List Blk) (w : World) (hg : Good B K n k nb) (hl : bl.length = nb) (htot : ((bl.map Blk.l).flatten).length ≤ 1048576) (ha : Lies w a (bl.map Blk.val)) (hall : AllIn w bl) :
    Calls Tryd.prog 40 #[.agg #[.int .i64 B, .int .i64 K], .slice a nb cap] w fun e w' => ∃ a' c', e = .returned (.tuple #[.slice a' (joinRes B K (bl.map Blk.l)).length c', .int .i64 (joinCode B K (bl.map Blk.l))]) ∧
      Lies w' a' (bs (joinRes B K (bl.map Blk.l))) ∧ Below w.heap.size w w' := by
  have G : Hid (Good B K n k nb) := hg
  obtain ⟨rfl, rfl, n1, n2, k1, k2, eN, b1, b2, lo, hi⟩ := hg
  have hB : I64 n := ⟨by omega, by omega⟩
  have hK : I64 k := ⟨by omega, by omega⟩
  have HC : Hid (chkP n k = 0) := chkP_good G.out
  have HL : Hid (bl.length = nb) := hl
  have HN : Hid (nB n k = nb) := eN
  have HT : Hid (((bl.map Blk.l).flatten).length ≤ 1048576) := htot
  have hself : ((nb : Int) != (nb : Int)) = false := by simp
  obtain ⟨b1', o1', rfl⟩ := ha.some (k := 0) (by simp; omega)
  clear hl eN htot
  go_enter Tryd.func40, Tryd.ntmps40
  go_wp2_with fail
  refine (checkPlan_any n k _ hB hK).mono ?_
  rintro e w1 ⟨rfl, hb⟩
  obtain ⟨x0, x1⟩ := (Boxed.mk w n k 23).below hb
  have HX : Hid (Boxed w1 w.heap.size n k) := ⟨x0, x1⟩
  have hb := boxBelow hb
  rw [HC.out]
  go_wp2_with fail
  refine (refBlocks_any n k _ hB hK).mono ?_
  rintro e w2 ⟨rfl, hb2⟩
  rw [HN.out]
  have HX := HX.out.below hb2
  have hb := hb.trans (hb2.mono hb.size)
  clear hb2 x0 x1
  go_wp2_with fail
  have hcon := concat_any _ cap bl w2 (by rw [HL.out]; unfold maxLen; omega) HT.out (ha.below hb (Nat.le_refl _)) (hall.below hb)
  rw [HL.out] at hcon
  refine hcon.mono ?_
  clear hcon
  rintro e w3 ⟨v3, rfl, ho3, hb3⟩
  obtain ⟨p3, q3, rfl, hq3⟩ := own_slice ho3
  obtain ⟨p3', q3', e3, hl3, -⟩ := own_lies ho3
  simp at e3
  obtain ⟨rfl, rfl⟩ := e3
  obtain ⟨x0, x1⟩ := HX.below hb3
  have hb := hb.trans (hb3.mono hb.size)
  clear ho3 hb3 HX
  obtain ⟨T, hT⟩ : ∃ T, T = ((bl.map Blk.l).flatten).length := ⟨_, rfl⟩
  rw [← hT] at hq3 ⊢
  have HTT : Hid (T = ((bl.map Blk.l).flatten).length) := hT
  have hT2 : T ≤ 1048576 := by rw [hT]; exact HT.out
  clear hT
  go_wp2
  go_loop [25] (fun i => ∃ m : Nat, m ≤ nb ∧ i = .int .i64 m ∧ Hid (lenTo k bl m)) (fun i => nb - (intOf i).toNat)
  case atStart => exact ⟨0, Nat.zero_le _, rfl, fun j hj h => by omega⟩
  case round =>
    obtain ⟨m, hm, rfl, hlen⟩ := hrel
    by_cases hlt : m < nb
    · have hml : m < bl.length := by rw [HL.out]; exact hlt
      have hc1 : w3.cell? ⟨b1', o1' + m, none⟩ = some (.slice bl[m].a bl[m].l.length bl[m].cap) := (ha.below hb (Nat.le_refl _)).at (by simp [hml, Blk.val])
      have hbb := (hall bl[m] (by simp)).2
      unfold maxLen at hbb
      cases hne : ((bl[m].l.length : Int) != (k : Int)) with
      | true =>
        have HJ : Hid (joinCode n k (bl.map Blk.l) = 4) := joinCode_len G.out HL.out hml (by simp at hne; omega)
        go_wp2
        go_ret2
        exact ⟨none, ⟨0, by simp [joinRes, HJ.out]⟩, by simp [joinRes, HJ.out, bs, Lies.nil], hb⟩
      | false =>
        have HE : Hid (bl[m].l.length = k) := by
          show bl[m].l.length = k
          simp at hne
          omega
        go_wp2
        go_round
        case rel => exact ⟨m + 1, by omega, by go_num, lenTo_succ hlen.out hml HE.out⟩
        case measure => simp [intOf]; omega
    · have HA : Hid (∀ b ∈ bl.map Blk.l, b.length = k) := lenTo_all hlen.out (by rw [HL.out]; omega)
      have hTn : n ≤ T := by
        rw [HTT.out, flatten_length_of HA.out]
        simp only [List.length_map, HL.out]
        exact hi
      clear hlen
      go_wp2
      clear hm hlt
      go_loop [10] (fun i => ∃ m : Nat, n ≤ m ∧ m ≤ T ∧ i = .int .i64 m ∧ Hid (allZero (((bl.map Blk.l).flatten.drop n).take (m - n)) = true)) (fun i => T - (intOf i).toNat)
      case atStart => exact ⟨n, Nat.le_refl _, hTn, rfl, show allZero (((bl.map Blk.l).flatten.drop n).take (n - n)) = true by simp [allZero]⟩
      case round =>
        obtain ⟨m, hnm, hm, rfl, hz⟩ := hrel
        by_cases hlt : m < T
        · have hml : m < (bl.map Blk.l).flatten.length := by rw [← HTT.out]; exact hlt
          obtain ⟨fl, hfl⟩ : ∃ fl, fl = (bl.map Blk.l).flatten := ⟨_, rfl⟩
          have HFL : Hid (fl = (bl.map Blk.l).flatten) := hfl
          rw [← hfl] at hml hz hl3
          clear hfl
          obtain ⟨b3, o3, rfl⟩ := hl3.some (k := m) (by rw [bs_length]; exact hml)
          have hc1 : w3.cell? ⟨b3, o3 + m, none⟩ = some (.int .u8 (fl[m].toNat : Int)) := hl3.at (bs_get fl m hml)
          cases hne : ((fl[m].toNat : Int) != 0) with
          | true =>
            have HJ : Hid (joinCode n k (bl.map Blk.l) = 4) := joinCode_zero4 G.out (by simpa using HL.out) HA.out (by rw [← HFL.out]; exact zero_no hnm hml hne)
            go_wp2
            go_ret2
            exact ⟨none, ⟨0, by simp [joinRes, HJ.out]⟩, by simp [joinRes, HJ.out, bs, Lies.nil], hb⟩
          | false =>
            have HZ : Hid (allZero (((bl.map Blk.l).flatten.drop n).take (m + 1 - n)) = true) := by
              have := zero_step hnm hml hz hne
              rw [HFL.out] at this
              exact this
            go_wp2
            go_round
            case rel => exact ⟨m + 1, by omega, by omega, by go_num, HZ⟩
            case measure => simp [intOf]; omega
        · have HJ : Hid (joinCode n k (bl.map Blk.l) = 0 ∧ joinRes n k (bl.map Blk.l) = (bl.map Blk.l).flatten.take n) := joinCode_good G.out (by simpa using HL.out) HA.out (by
            have := hz.out
            rwa [List.take_of_length_le (by rw [List.length_drop, ← HTT.out]; omega)] at this)
          have hnq : (n : Int) ≤ (q3 : Int) := by omega
          clear hz
          go_wp2
          go_ret2
          have hll : (joinRes n k (bl.map Blk.l)).length = n := by
            rw [HJ.out.2, List.length_take, ← HTT.out]
            omega
          rw [hll, HJ.out.1, HJ.out.2]
          exact ⟨p3, ⟨q3, rfl⟩, hl3.takeB n, hb⟩

/-- the reference's Joined -/
theorem joined_any (B K : Int) (a : Option Addr) (cap : Nat) (bl : List Blk) (w : World) (hB : I64 B) (hK : I64 K) (hn : bl.length ≤ maxLen) (htot : ((bl.map Blk.l).flatten).length ≤ 1048576) (ha : Lies w a (bl.map Blk.val)) (hall : AllIn w bl) :
    Calls Tryd.prog 40 #[.agg #[.int .i64 B, .int .i64 K], .slice a bl.length cap] w fun e w' => ∃ a' c', e = .returned (.tuple #[.slice a' (joinRes B K (bl.map Blk.l)).length c', .int .i64 (joinCode B K (bl.map Blk.l))]) ∧
      Lies w' a' (bs (joinRes B K (bl.map Blk.l))) ∧ Below w.heap.size w w' := by
  by_cases hbad : chkP B K ≠ 0 ∨ (bl.length : Int) ≠ nB B K
  · have hne : joinCode B K (bl.map Blk.l) ≠ 0 := by
      by_cases hc : chkP B K = 0
      · have := hbad.resolve_left (by simp [hc])
        simp [joinCode, hc, this]
      · rw [joinCode_chk hc]; exact hc
    refine (joined_bad1 B K a cap bl w hB hK hn hbad).mono ?_
    rintro e w' ⟨rfl, hb⟩
    have er : joinRes B K (bl.map Blk.l) = [] := if_neg hne
    rw [er]
    exact ⟨none, 0, rfl, Lies.nil _ _, hb⟩
  · have h1 : chkP B K = 0 := Classical.byContradiction fun h => hbad (.inl h)
    have h2 : (bl.length : Int) = nB B K := Classical.byContradiction fun h => hbad (.inr h)
    obtain ⟨n, k, nb, g⟩ := good_of h1
    have hl : bl.length = nb := by have := g.eN; omega
    rw [hl]
    exact joined_good B K n k nb a cap bl w g hl htot ha hall

end Go.Proofs.YtkiejflgphjfjacDoor
