import Derived.Test.YtkiejflgphjfjacDoorPart1
import Derived.Test.YtkiejflgphjfjacDoorPart6
import Derived.Laws.CopyOwn
/-
  Chapter 2's smaller functions, and the reference's: the contract of each.
-/
namespace Go.Proofs.YtkiejflgphjfjacDoor
open Go.RowKit
set_option linter.unusedVariables false
set_option linter.unusedSimpArgs false

theorem div_le {B K : Int} (h : 1 ≤ B) (k : 1 ≤ K) : 0 ≤ (B - 1) / K ∧ (B - 1) / K ≤ B - 1 :=
  ⟨Int.ediv_nonneg (by omega) (by omega), Int.ediv_le_self _ (by omega)⟩

theorem cutBlocks_any (B K : Int) (w : World) (hB : I64 B) (hK : I64 K) :
    Calls Tryd.prog 20 #[.agg #[.int .i64 B, .int .i64 K]] w fun e w' => e = .returned (.int .i64 (nB B K)) ∧ Below w.heap.size w w' := by
  obtain ⟨hB1, hB2⟩ := hB
  obtain ⟨hK1, hK2⟩ := hK
  by_cases h1 : B < 1
  · go_enter Tryd.func20, Tryd.ntmps20
    go_wp2
    all_goals go_ret
    all_goals exact ⟨ret_int (nB_none (.inl h1)).symm, (Below.refl _ _).alloc (Nat.le_refl _) _⟩
  have h1 : 1 ≤ B := by omega
  by_cases h2 : K < 1
  · go_enter Tryd.func20, Tryd.ntmps20
    go_wp2
    all_goals go_ret
    all_goals exact ⟨ret_int (nB_none (.inr h2)).symm, (Below.refl _ _).alloc (Nat.le_refl _) _⟩
  have h2 : 1 ≤ K := by omega
  obtain ⟨d1, d2⟩ := div_le h1 h2
  go_enter Tryd.func20, Tryd.ntmps20
  go_wp2
  go_ret
  exact ⟨ret_int (nB_some h1 h2).symm, (Below.refl _ _).alloc (Nat.le_refl _) _⟩

theorem chkP_range {B K : Int} (h : B < 1 ∨ 360 < B ∨ K < 1 ∨ 16 < K) : chkP B K = 3 := if_pos h
theorem chkP_many {B K : Int} (h : ¬ (B < 1 ∨ 360 < B ∨ K < 1 ∨ 16 < K)) (k : 24 < nB B K) : chkP B K = 2 := by rw [chkP, if_neg h, if_pos k]
theorem chkP_ok {B K : Int} (h : ¬ (B < 1 ∨ 360 < B ∨ K < 1 ∨ 16 < K)) (k : ¬ 24 < nB B K) : chkP B K = 0 := by rw [chkP, if_neg h, if_neg k]

theorem cutCheck_any (B K : Int) (w : World) (hB : I64 B) (hK : I64 K) :
    Calls Tryd.prog 13 #[.agg #[.int .i64 B, .int .i64 K]] w fun e w' => e = .returned (.int .i64 (chkP B K)) ∧ Below w.heap.size w w' := by
  by_cases h1 : B < 1
  · go_enter Tryd.func13, Tryd.ntmps13
    go_wp2
    all_goals go_ret
    all_goals exact ⟨ret_int (chkP_range (.inl h1)).symm, (Below.refl _ _).alloc (Nat.le_refl _) _⟩
  have h1 : 1 ≤ B := by omega
  by_cases h2 : 360 < B
  · go_enter Tryd.func13, Tryd.ntmps13
    go_wp2
    all_goals go_ret
    all_goals exact ⟨ret_int (chkP_range (.inr (.inl h2))).symm, (Below.refl _ _).alloc (Nat.le_refl _) _⟩
  have h2 : B ≤ 360 := by omega
  by_cases h3 : K < 1
  · go_enter Tryd.func13, Tryd.ntmps13
    go_wp2
    all_goals go_ret
    all_goals exact ⟨ret_int (chkP_range (.inr (.inr (.inl h3)))).symm, (Below.refl _ _).alloc (Nat.le_refl _) _⟩
  have h3 : 1 ≤ K := by omega
  by_cases h4 : 16 < K
  · go_enter Tryd.func13, Tryd.ntmps13
    go_wp2
    all_goals go_ret
    all_goals exact ⟨ret_int (chkP_range (.inr (.inr (.inr h4)))).symm, (Below.refl _ _).alloc (Nat.le_refl _) _⟩
  have h4 : K ≤ 16 := by omega
  have hr : Hid (¬ (B < 1 ∨ 360 < B ∨ K < 1 ∨ 16 < K)) := show ¬ (B < 1 ∨ 360 < B ∨ K < 1 ∨ 16 < K) by omega
  by_cases h5 : 24 < nB B K
  · go_enter Tryd.func13, Tryd.ntmps13
    go_wp2_with fail
    refine (cutBlocks_any B K _ hB hK).mono ?_
    rintro e w1 ⟨rfl, hb⟩
    have hb := boxBelow hb
    go_wp2
    go_ret
    exact ⟨ret_int (chkP_many hr.out h5).symm, hb⟩
  · go_enter Tryd.func13, Tryd.ntmps13
    go_wp2_with fail
    refine (cutBlocks_any B K _ hB hK).mono ?_
    rintro e w1 ⟨rfl, hb⟩
    have hb := boxBelow hb
    go_wp2
    go_ret
    exact ⟨ret_int (chkP_ok hr.out (Int.not_lt.2 h5)).symm, hb⟩

theorem nB_alt {B K : Int} (h1 : 1 ≤ B) (h2 : 1 ≤ K) : (0 < B % K → nB B K = B / K + 1) ∧ (¬ 0 < B % K → nB B K = B / K) := by
  rw [nB_some h1 h2]
  have e := Int.mul_ediv_add_emod B K
  have m1 := Int.emod_nonneg B (show K ≠ 0 by omega)
  have m2 := Int.emod_lt_of_pos B (show 0 < K by omega)
  refine ⟨fun h => ?_, fun h => ?_⟩
  · have : (B - 1) / K = B / K := by
      have e2 : B - 1 = (B % K - 1) + K * (B / K) := by omega
      rw [e2, Int.add_mul_ediv_left _ _ (by omega), Int.ediv_eq_zero_of_lt (by omega) (by omega)]
      omega
    rw [this]
  · have : (B - 1) / K = B / K - 1 := by
      have e2 : B - 1 = (K - 1) + K * (B / K - 1) := by rw [Int.mul_sub]; omega
      rw [e2, Int.add_mul_ediv_left _ _ (by omega), Int.ediv_eq_zero_of_lt (by omega) (by omega)]
      omega
    omega

theorem div_le' {B K : Int} (h : 1 ≤ B) (k : 1 ≤ K) : 0 ≤ B / K ∧ B / K ≤ B := ⟨Int.ediv_nonneg (by omega) (by omega), Int.ediv_le_self _ (by omega)⟩

theorem div_room {B K : Int} (h : 1 ≤ B) (k : 1 ≤ K) (hB : B ≤ 9223372036854775807) (hm : 0 < B % K) : B / K + 1 ≤ 9223372036854775807 := by
  have := (nB_alt h k).1 hm
  rw [nB_some h k] at this
  have := div_le h k
  omega

theorem refBlocks_any (B K : Int) (w : World) (hB : I64 B) (hK : I64 K) :
    Calls Tryd.prog 36 #[.agg #[.int .i64 B, .int .i64 K]] w fun e w' => e = .returned (.int .i64 (nB B K)) ∧ Below w.heap.size w w' := by
  obtain ⟨hB1, hB2⟩ := hB
  obtain ⟨hK1, hK2⟩ := hK
  by_cases h1 : B < 1
  · go_enter Tryd.func36, Tryd.ntmps36
    go_wp2
    all_goals go_ret
    all_goals exact ⟨ret_int (nB_none (.inl h1)).symm, (Below.refl _ _).alloc (Nat.le_refl _) _⟩
  have h1 : 1 ≤ B := by omega
  by_cases h2 : K < 1
  · go_enter Tryd.func36, Tryd.ntmps36
    go_wp2
    all_goals go_ret
    all_goals exact ⟨ret_int (nB_none (.inr h2)).symm, (Below.refl _ _).alloc (Nat.le_refl _) _⟩
  have h2 : 1 ≤ K := by omega
  obtain ⟨d1, d2⟩ := div_le' h1 h2
  by_cases hm : 0 < B % K
  · have d3 := div_room h1 h2 hB2 hm
    go_enter Tryd.func36, Tryd.ntmps36
    go_wp2
    go_ret
    exact ⟨ret_int ((nB_alt h1 h2).1 hm).symm, (Below.refl _ _).alloc (Nat.le_refl _) _⟩
  · go_enter Tryd.func36, Tryd.ntmps36
    go_wp2
    go_ret
    exact ⟨ret_int ((nB_alt h1 h2).2 (Int.not_lt.2 hm)).symm, (Below.refl _ _).alloc (Nat.le_refl _) _⟩

theorem checkPlan_any (B K : Int) (w : World) (hB : I64 B) (hK : I64 K) :
    Calls Tryd.prog 35 #[.agg #[.int .i64 B, .int .i64 K]] w fun e w' => e = .returned (.int .i64 (chkP B K)) ∧ Below w.heap.size w w' := by
  by_cases h1 : 1 ≤ B ∧ B ≤ 360
  · have d1 : decide (1 ≤ B ∧ B ≤ 360) = true := decide_eq_true h1
    by_cases h2 : 1 ≤ K ∧ K ≤ 16
    · have d2 : decide (1 ≤ K ∧ K ≤ 16) = true := decide_eq_true h2
      have hr : Hid (¬ (B < 1 ∨ 360 < B ∨ K < 1 ∨ 16 < K)) := show ¬ (B < 1 ∨ 360 < B ∨ K < 1 ∨ 16 < K) by omega
      by_cases h5 : 24 < nB B K
      · go_enter Tryd.func35, Tryd.ntmps35
        go_wp2_with (go_at_call 63; refine (in_any _ _ _ _).mono ?_; rintro e w' ⟨rfl, rfl⟩)
        refine (refBlocks_any B K _ hB hK).mono ?_
        rintro e w1 ⟨rfl, hb⟩
        have hb := boxBelow hb
        go_wp2
        go_ret
        exact ⟨ret_int (chkP_many hr.out h5).symm, hb⟩
      · go_enter Tryd.func35, Tryd.ntmps35
        go_wp2_with (go_at_call 63; refine (in_any _ _ _ _).mono ?_; rintro e w' ⟨rfl, rfl⟩)
        refine (refBlocks_any B K _ hB hK).mono ?_
        rintro e w1 ⟨rfl, hb⟩
        have hb := boxBelow hb
        go_wp2
        go_ret
        exact ⟨ret_int (chkP_ok hr.out (Int.not_lt.2 h5)).symm, hb⟩
    · have d2 : decide (1 ≤ K ∧ K ≤ 16) = false := decide_eq_false h2
      have hr : Hid (chkP B K = 3) := chkP_range (by omega)
      clear h1 h2
      go_enter Tryd.func35, Tryd.ntmps35
      go_wp2_with (go_at_call 63; refine (in_any _ _ _ _).mono ?_; rintro e w' ⟨rfl, rfl⟩)
      go_ret
      exact ⟨ret_int hr.out.symm, (Below.refl _ _).alloc (Nat.le_refl _) _⟩
  · have d1 : decide (1 ≤ B ∧ B ≤ 360) = false := decide_eq_false h1
    have hr : Hid (chkP B K = 3) := chkP_range (by omega)
    clear h1
    go_enter Tryd.func35, Tryd.ntmps35
    go_wp2_with (go_at_call 63; refine (in_any _ _ _ _).mono ?_; rintro e w' ⟨rfl, rfl⟩)
    go_ret
    exact ⟨ret_int hr.out.symm, (Below.refl _ _).alloc (Nat.le_refl _) _⟩

theorem allZero_no {l : List UInt8} {k : Nat} (h : k < l.length) (hne : ((l[k].toNat : Int) != 0) = true) : allZero l = false := by
  rw [Bool.eq_false_iff]
  intro hz
  simp only [allZero, List.all_eq_true, beq_iff_eq] at hz
  have := hz l[k] (by simp)
  rw [this] at hne
  simp at hne

theorem u8_zero {x : UInt8} (h : ((x.toNat : Int) != 0) = false) : x = 0 := by
  simp at h
  exact UInt8.toNat_inj.1 (by simpa using h)

set_option maxHeartbeats 400000 in
theorem noughts_any (a : Option Addr) (cap : Nat) (l : List UInt8) (w : World) (hn : l.length ≤ maxLen) (ha : Lies w a (bs l)) :
    Calls Tryd.prog 62 #[.slice a l.length cap] w fun e w' => e = .returned (.bool (allZero l)) ∧ w = w' := by
  unfold maxLen at hn
  go_enter Tryd.func62, Tryd.ntmps62
  go_wp2
  go_loop [7] (fun i => ∃ k : Nat, k ≤ l.length ∧ i = .int .i64 k ∧ Hid (allZero (l.take k) = true)) (fun i => l.length - (intOf i).toNat)
  case atStart => exact ⟨0, Nat.zero_le _, rfl, rfl⟩
  case round =>
    obtain ⟨k, hk, rfl, hz⟩ := hrel
    by_cases hlt : k < l.length
    · obtain ⟨b1, o1, rfl⟩ := ha.some (k := k) (by rw [bs_length]; exact hlt)
      have h1 : w.cell? ⟨b1, o1 + k, none⟩ = some (.int .u8 (l[k].toNat : Int)) := ha.at (bs_get l k hlt)
      clear ha
      cases hne : ((l[k].toNat : Int) != 0) with
      | true =>
        have HZ : Hid (allZero l = false) := allZero_no hlt hne
        go_wp2
        go_ret
        exact ⟨retB HZ.out.symm, rfl⟩
      | false =>
        have HZ : Hid (allZero (l.take (k + 1)) = true) := by
          show allZero (l.take (k + 1)) = true
          have := hz.out
          rw [List.take_succ_eq_append_getElem hlt]
          simp only [allZero, List.all_append, Bool.and_eq_true] at this ⊢
          exact ⟨this, by simp [u8_zero hne]⟩
        go_wp2
        go_round
        case rel => exact ⟨k + 1, by omega, by go_num, HZ⟩
        case measure => simp [intOf]; omega
    · have HZ : Hid (allZero l = true) := by
        have := hz.out
        rwa [List.take_of_length_le (by omega)] at this
      clear ha
      go_wp2
      go_ret
      exact ⟨retB HZ.out.symm, rfl⟩

end Go.Proofs.YtkiejflgphjfjacDoor

/-
  cut.Cut: its contract.
-/
namespace Go.Proofs.YtkiejflgphjfjacDoor
open Go.RowKit
set_option linter.unusedVariables false
set_option linter.unusedSimpArgs false

theorem Lies.takeB {w : World} {a : Option Addr} {l : List UInt8} (h : Lies w a (bs l)) (q : Nat) : Lies w a (bs (l.take q)) := by
  intro k u hu
  refine h k u ?_
  simp only [bs, List.map_take, List.getElem?_take] at hu ⊢
  split at hu
  · exact hu
  · cases hu

theorem Lies.takeV {w : World} {a : Option Addr} {l : List Value} (h : Lies w a l) (q : Nat) : Lies w a (l.take q) := by
  intro k u hu
  refine h k u ?_
  rw [List.getElem?_take] at hu
  split at hu
  · exact hu
  · cases hu

/-- the plan's box -/
def Boxed (w : World) (g : Nat) (B K : Int) : Prop := w.cell? ⟨g, 0, none⟩ = some (.int .i64 B) ∧ w.cell? ⟨g, 1, none⟩ = some (.int .i64 K)

theorem Boxed.mk (w : World) (B K : Int) (t : TypeId) : Boxed (w.alloc (.cells #[.int .i64 B, .int .i64 K] t)) w.heap.size B K := by
  have h := Lies.alloc_new w #[.int .i64 B, .int .i64 K] t
  exact ⟨h.at (k := 0) rfl, h.at (k := 1) rfl⟩

theorem Boxed.below {w w1 : World} {g : Nat} {B K : Int} (h : Boxed w g B K) (hb : Below w.heap.size w w1) : Boxed w1 g B K := by
  have h1 := World.block_lt_of_cell? w _ h.1
  simp at h1
  exact ⟨by rw [(bcell hb).1 g 0 h1]; exact h.1, by rw [(bcell hb).1 g 1 h1]; exact h.2⟩

theorem cutCode_chk {B K : Int} {c : List UInt8} (h : chkP B K ≠ 0) : cutCode B K c = chkP B K := by simp [cutCode, h]

set_option maxHeartbeats 400000 in
/-- cut.Cut where something is wrong -/
theorem cut_bad (B K : Int) (a : Option Addr) (cap : Nat) (c : List UInt8) (w : World) (hB : I64 B) (hK : I64 K) (hn : c.length ≤ maxLen) (hbad : cutCode B K c ≠ 0) :
    Calls Tryd.prog 22 #[.agg #[.int .i64 B, .int .i64 K], .slice a c.length cap] w fun e w' => e = .returned (.tuple #[.slice none 0 0, .int .i64 (cutCode B K c)]) ∧ Below w.heap.size w w' := by
  unfold maxLen at hn
  by_cases hc : chkP B K = 0
  · have hne : ((c.length : Int) != B) = true := by
      simp [cutCode, hc] at hbad
      simpa using hbad
    have HA : Hid (cutCode B K c = 4) := by
      show cutCode B K c = 4
      simp [cutCode, hc]
      simpa using hne
    clear hbad
    go_enter Tryd.func22, Tryd.ntmps22
    go_wp2_with fail
    refine (cutCheck_any B K _ hB hK).mono ?_
    rintro e w1 ⟨rfl, hb⟩
    obtain ⟨x0, x1⟩ := (Boxed.mk w B K 23).below hb
    have hb := boxBelow hb
    rw [hc]
    go_wp2
    go_ret2
    exact ⟨ret2 rfl (congrArg (Value.int .i64) HA.out.symm), hb⟩
  · have hc' : (chkP B K != 0) = true := by simpa using hc
    have HA : Hid (cutCode B K c = chkP B K) := cutCode_chk hc
    clear hc hbad
    go_enter Tryd.func22, Tryd.ntmps22
    go_wp2_with fail
    refine (cutCheck_any B K _ hB hK).mono ?_
    rintro e w1 ⟨rfl, hb⟩
    have hb := boxBelow hb
    go_wp2
    go_ret2
    exact ⟨ret2 rfl (congrArg (Value.int .i64) HA.out.symm), hb⟩

/-- the row of blocks after i rounds: i of them laid behind g -/
def rowAt (g k i : Nat) (j : Nat) : Value := if j < i then .slice (some ⟨g + 1 + j, 0, none⟩) k k else .slice none 0 0

def CutInv (w wr : World) (g0 g n k nb : Nat) (c : List UInt8) (i : Nat) : Prop :=
  wr.heap.size = g + 1 + i ∧ wr.rowIs g 36 nb (rowAt g k i) ∧ (∀ j, j < i → wr.rowIs (g + 1 + j) 5 k (u8at (piece k j c))) ∧ Boxed wr g0 n k ∧ Below w.heap.size w wr

theorem CutInv.start {w w2 : World} {g0 n k nb : Nat} {c : List UInt8} (hx : Boxed w2 g0 n k) (hb : Below w.heap.size w w2) :
    CutInv w (w2.alloc (.cells (madeCells #[.slice none 0 0] nb) 36)) g0 w2.heap.size n k nb c 0 := by
  refine ⟨by simp, (World.rowIs_made w2 _ nb _).congr fun i hi => by simp [rowAt], fun j hj => by omega, hx.below ((Below.refl _ _).alloc (Nat.le_refl _) _), hb.alloc hb.size _⟩

/-- copy into a row that is known whole, as one step of a region that draws its order: the world behind it is named -/
theorem step_copy_row {P : Program} {ops : Array Oper} {o : Oper} {a : Act} {w : World} {K : Act → World → Prop} {Q : Exit → Act → World → Prop} {E : Prop} (hgd : o.guard = none) (d s : Operand) (dT sT : TypeId)
    (ho : o.op = .call { callee := .builtin .copy, args := #[d, s], argTypes := #[dT, sT] }) (elem : TypeId) (hu : P.underlying dT = some (.slice elem)) (hsz : (P.info? elem).map (·.size) = some 1)
    (g off dLen dCap : Nat) (ad : Addr) (sLen sCap : Nat) (hd : a.eval d = .slice (some ⟨g, off, none⟩) dLen dCap) (hs : a.eval s = .slice (some ad) sLen sCap)
    (cur cs : List Value) (t : TypeId) (hg : w.heap[g]? = some (.cells cur.toArray t (0, 0))) (hn : cs.length = Nat.min sLen dLen)
    (hsrc : ∀ j v, cs[j]? = some v → w.cell? (ad.add j) = some v) (hfit : off + cs.length ≤ cur.length) (h1 : ∀ v ∈ cs, v.oneCell' = true)
    (h : K (a.put o.dst (goInt cs.length)) (w.setRow g (splice cur off cs).toArray)) :
    if Region.wanted o (yielded ops a.tmps) = true then Oper.wp P o a w K Q else E := by
  have hw : Region.wanted o (yielded ops a.tmps) = true := by simp [Region.wanted, hgd]
  rw [if_pos hw]
  have hrun := run_copy_row P w dT sT o.type elem g off dLen dCap ad sLen sCap cur.toArray t cs hu hsz hg hn hsrc (by simpa using hfit) h1
  unfold Oper.wp
  simp [execOp, ho, resolve, invoke, builtin, hd, hs, hrun, Result.andThen]
  simp only [splice] at h
  exact h

/-- between the store and the copy -/
def CutMid (w w3 : World) (g0 g n k nb : Nat) (c : List UInt8) (m : Nat) : Prop :=
  w3.heap.size = g + 1 + (m + 1) ∧ w3.rowIs g 36 nb (rowAt g k (m + 1)) ∧ (∀ j, j < m → w3.rowIs (g + 1 + j) 5 k (u8at (piece k j c))) ∧ Boxed w3 g0 n k ∧ Below w.heap.size w w3 ∧
    w3.heap[g + 1 + m]? = some (.cells (List.replicate k (Value.int .u8 0)).toArray 5 (0, 0))

theorem Boxed.setOther {w : World} {g b o : Nat} {B K : Int} {v : Value} (h : Boxed w g B K) (hne : g ≠ b) : Boxed (w.setCell ⟨b, o, none⟩ v) g B K :=
  ⟨by rw [World.cell?_setCell_other _ _ _ _ (by intro e; cases e; exact hne rfl)]; exact h.1, by rw [World.cell?_setCell_other _ _ _ _ (by intro e; cases e; exact hne rfl)]; exact h.2⟩

theorem CutInv.mid {w wr : World} {g0 g n k nb m : Nat} {c : List UInt8} (hI : CutInv w wr g0 g n k nb c m) (hlt : m < nb) (hgg : g0 < g) (hw : w.heap.size ≤ g0) :
    CutMid w ((wr.setCell ⟨g, m, none⟩ (.slice (some ⟨wr.heap.size, 0, none⟩) k k)).alloc (.cells (madeCells #[.int .u8 0] k) 5)) g0 g n k nb c m := by
  obtain ⟨i1, i2, i3, i4, i5⟩ := hI
  refine ⟨by simp; omega, ?_, ?_, ?_, ?_, ?_⟩
  · refine ((i2.set m _).alloc _).congr fun j hj => ?_
    rw [i1]
    simp only [rowAt]
    by_cases e : j = m
    · subst e; simp
    · rw [if_neg e]
      by_cases h : j < m
      · rw [if_pos h, if_pos (by omega)]
      · rw [if_neg h, if_neg (by omega)]
  · exact fun j hj => ((i3 j hj).setOther (by simp; omega) _).alloc _
  · exact (i4.setOther (by omega)).below ((Below.refl _ _).alloc (Nat.le_refl _) _)
  · exact (i5.setCell (by simp; omega) _).alloc (by simp; omega) _
  · rw [heap_alloc_eq, if_pos (by simp; omega)]
    congr 2
    apply Array.ext'
    rw [toList_madeCells_one]

theorem sizeU8 : (Tryd.prog.info? 5).map (·.size) = some 1 := by kernel_rfl

theorem bs_one {cs : List Value} {l : List UInt8} (h : Hid (cs = bs l)) : ∀ v ∈ cs, v.oneCell' = true := by
  rw [h.out]
  intro v hv
  obtain ⟨x, _, rfl⟩ := List.mem_map.1 hv
  rfl

theorem copy_len {cs : List Value} {c : List UInt8} {m k n p : Nat} (h : Hid (cs = bs ((c.drop (m * k)).take k))) (hp : Hid (p = m * k)) (hl : Hid (c.length = n)) : cs.length = Nat.min (n - p) k := by
  rw [h.out, hp.out, bs_length, List.length_take, List.length_drop, hl.out]
  exact Nat.min_comm _ _

theorem copy_fit {cs : List Value} {k q : Nat} (h : Hid (cs.length = Nat.min q k)) : 0 + cs.length ≤ (List.replicate k (Value.int .u8 0)).length := by
  rw [h.out, List.length_replicate]
  have : Nat.min q k ≤ k := Nat.min_le_right _ _
  omega

theorem copy_src {cs : List Value} {c : List UInt8} {m k p ab ao : Nat} {w : World} (h : Hid (cs = bs ((c.drop (m * k)).take k))) (hp : Hid (p = m * k)) (hl : Lies w (some ⟨ab, ao, none⟩) (bs c)) :
    ∀ j v, cs[j]? = some v → w.cell? ((⟨ab, ao + p, none⟩ : Addr).add j) = some v := by
  intro j v hj
  rw [h.out] at hj
  have hj' : (bs c)[p + j]? = some v := by
    rw [hp.out]
    simp only [bs, List.map_take, List.map_drop, List.getElem?_take, List.getElem?_drop] at hj ⊢
    split at hj
    · exact hj
    · cases hj
  have := hl.at hj'
  simpa [Addr.add_lit, Nat.add_assoc] using this

theorem CutMid.drew {w w3 : World} {g0 g n k nb m : Nat} {c : List UInt8} (h : CutMid w w3 g0 g n k nb c m) : CutMid w w3.drew g0 g n k nb c m :=
  ⟨h.1, h.2.1, h.2.2.1, h.2.2.2.1, h.2.2.2.2.1.drew, h.2.2.2.2.2⟩

theorem rowIs_setRow {w : World} {g n : Nat} {t : TypeId} {old : Array Value} {cs : List Value} {f : Nat → Value} (hg : w.heap[g]? = some (.cells old t (0, 0))) (hn : cs.length = n) (hf : ∀ i (hi : i < cs.length), cs[i] = f i) : (w.setRow g cs.toArray).rowIs g t n f := by
  refine ⟨cs.toArray, setRow_heap w g old cs.toArray t _ hg, by simpa using hn, fun i hi => ?_⟩
  have hi' : i < cs.length := by omega
  simp [hi', hf i hi']

theorem splice_piece {c : List UInt8} {cs : List Value} {m k : Nat} (HCS : Hid (cs = bs ((c.drop (m * k)).take k))) : (splice (List.replicate k (Value.int .u8 0)) 0 cs).length = k ∧ ∀ i (hi : i < (splice (List.replicate k (Value.int .u8 0)) 0 cs).length), (splice (List.replicate k (Value.int .u8 0)) 0 cs)[i] = u8at (piece k m c) i := by
  have hcl : cs.length = min k (c.length - m * k) := by rw [HCS.out, bs_length]; simp
  have hl : (splice (List.replicate k (Value.int .u8 0)) 0 cs).length = k := by
    rw [length_splice _ _ _ (by simp; omega)]; simp
  refine ⟨hl, fun i hi => ?_⟩
  have hik : i < k := by omega
  apply Option.some.inj
  rw [← List.getElem?_eq_getElem hi, u8at, piece_get c hik]
  unfold splice
  rw [List.take_zero, List.nil_append, List.getElem?_append]
  by_cases h : i < cs.length
  · rw [if_pos h, HCS.out]
    have h2 : m * k + i < c.length := by omega
    simp [bs, hik, h2]
  · rw [if_neg h]
    have h2 : c[m * k + i]? = none := List.getElem?_eq_none (by omega)
    rw [h2, List.getElem?_drop, List.getElem?_replicate, if_pos (by omega)]
    rfl

theorem CutMid.next {w w3 : World} {g0 g n k nb m : Nat} {c : List UInt8} {cs : List Value} (h : CutMid w w3 g0 g n k nb c m) (hgg : g0 < g) (hw : w.heap.size ≤ g0) (HL : Hid (c.length = n))
    (HCS : Hid (cs = bs ((c.drop (m * k)).take k))) : CutInv w (w3.setRow (g + 1 + m) (splice (List.replicate k (Value.int .u8 0)) 0 cs).toArray) g0 g n k nb c (m + 1) := by
  obtain ⟨i1, i2, i3, i4, i5, i6⟩ := h
  obtain ⟨s1, s2⟩ := splice_piece HCS
  refine ⟨by rw [setRow_size]; exact i1, i2.of_block (setRow_other _ _ _ _ (by omega)), fun j hj => ?_, ?_, below_setRow i5 (by omega) _⟩
  · by_cases e : j = m
    · subst e
      exact rowIs_setRow i6 s1 s2
    · exact (i3 j (by omega)).of_block (setRow_other _ _ _ _ (by omega))
  · exact ⟨by rw [cell_setRow_other _ _ _ _ (by simp; omega)]; exact i4.1, by rw [cell_setRow_other _ _ _ _ (by simp; omega)]; exact i4.2⟩

set_option maxHeartbeats 1000000 in
/-- cut.Cut where all is right -/
theorem cut_good (B K : Int) (n k nb : Nat) (a : Option Addr) (cap : Nat) (c : List UInt8) (w : World) (hg : Good B K n k nb) (hl : c.length = n) (hcap : n ≤ cap) (ha : Lies w a (bs c)) :
    Calls Tryd.prog 22 #[.agg #[.int .i64 B, .int .i64 K], .slice a n cap] w fun e w' => ∃ g, e = .returned (.tuple #[.slice (some ⟨g, 0, none⟩) nb nb, .int .i64 0]) ∧ w.heap.size ≤ g ∧ w'.rowIs g 36 nb (rowAt g k nb) ∧
      (∀ j, j < nb → w'.rowIs (g + 1 + j) 5 k (u8at (piece k j c))) ∧ Below w.heap.size w w' := by
  obtain ⟨rfl, rfl, n1, n2, k1, k2, eN, b1, b2, lo, hi⟩ := hg
  have hB : I64 n := ⟨by omega, by omega⟩
  have hK : I64 k := ⟨by omega, by omega⟩
  have hc : chkP n k = 0 := chkP_good ⟨rfl, rfl, n1, n2, k1, k2, eN, b1, b2, lo, hi⟩
  have HL : Hid (c.length = n) := hl
  have HC : Hid (chkP n k = 0) := hc
  have HN : Hid (nB n k = nb) := eN
  have hmk1 := run_make_row' (P := Tryd.prog) 48 36 (.slice none 0 0) 24 Tryd.underlying48 infoBlk rfl .i64 .i64 nb (by omega) (by omega)
  have hmk2 := run_make_row' (P := Tryd.prog) 36 5 (.int .u8 0) 1 Tryd.underlying36 infoU8 rfl .i64 .i64 k (by omega) (by omega)
  clear hl hc eN
  go_enter Tryd.func22, Tryd.ntmps22
  go_wp2_with fail
  refine (cutCheck_any n k _ hB hK).mono ?_
  rintro e w1 ⟨rfl, hb⟩
  have hx := (Boxed.mk w n k 23).below hb
  obtain ⟨x0, x1⟩ := hx
  have HX : Hid (Boxed w1 w.heap.size n k) := ⟨x0, x1⟩
  have hb := boxBelow hb
  rw [HC.out]
  go_wp2_with fail
  refine (cutBlocks_any n k _ hB hK).mono ?_
  rintro e w2 ⟨rfl, hb2⟩
  rw [HN.out]
  have hx := HX.out.below hb2
  have hb := hb.trans (hb2.mono hb.size)
  clear hb2 x0 x1 HX
  have hI0 : CutInv w (w2.alloc (.cells (madeCells #[.slice none 0 0] nb) 36)) w.heap.size w2.heap.size n k nb c 0 := CutInv.start hx hb
  have hgg : w.heap.size < w2.heap.size := by
    have := World.block_lt_of_cell? w2 _ hx.1
    simpa using this
  clear hx hb
  go_wp2
  go_loopw [24] (fun i wr => ∃ m : Nat, m ≤ nb ∧ i = .int .i64 m ∧ Hid (CutInv w wr w.heap.size w2.heap.size n k nb c m)) (fun i _ => nb - (intOf i).toNat)
  case atStart => exact ⟨0, Nat.zero_le _, rfl, hI0⟩
  case round =>
    clear hI0
    obtain ⟨m, hm, rfl, hI⟩ := hrel
    by_cases hlt : m < nb
    · obtain ⟨i1, i2, i3, i4, i5⟩ := hI.out
      have x1 := i4.2
      have y1 := i2.cell hlt
      have y2 := i2.frozen m
      rw [rowAt, if_neg (Nat.lt_irrefl m)] at y1
      have z1 : w2.heap.size < wr.heap.size := by omega
      have z2 : w.heap.size < wr.heap.size := by omega
      clear i1 i2 i3 i4 i5
      have HM : Hid (CutMid w ((wr.setCell ⟨w2.heap.size, m, none⟩ (.slice (some ⟨wr.heap.size, 0, none⟩) k k)).alloc (.cells (madeCells #[.int .u8 0] k) 5)) w.heap.size w2.heap.size n k nb c m) := hI.out.mid hlt hgg (Nat.le_refl _)
      go_wp2
      clear x1 y1 y2 z1 z2 hI
      generalize ((wr.setCell ⟨w2.heap.size, m, none⟩ (.slice (some ⟨wr.heap.size, 0, none⟩) k k)).alloc (.cells (madeCells #[.int .u8 0] k) 5)) = w3 at *
      obtain ⟨p, hp⟩ : ∃ p, p = m * k := ⟨_, rfl⟩
      have hpi : (m : Int) * (k : Int) = (p : Int) := by rw [hp]; simp
      have hpn : p < n := by
        have := Nat.mul_le_mul_right k (show m ≤ nb - 1 by omega)
        omega
      have HP : Hid (p = m * k) := hp
      clear hp
      have q1 : w3.cell? ⟨w2.heap.size, m, none⟩ = some (.slice (some ⟨w2.heap.size + 1 + m, 0, none⟩) k k) := by
        have := HM.out.2.1.cell hlt
        rwa [rowAt, if_pos (by omega)] at this
      have q2 := HM.out.2.2.2.1.2
      have Q3 : Hid (w3.heap[w2.heap.size + 1 + m]? = some (.cells (List.replicate k (Value.int .u8 0)).toArray 5 (0, 0))) := HM.out.2.2.2.2.2
      have hla := ha.below HM.out.2.2.2.2.1 (Nat.le_refl _)
      obtain ⟨ab, ao, rfl⟩ := ha.some (k := 0) (by rw [bs_length, HL.out]; omega)
      obtain ⟨cs, hcs⟩ : ∃ cs, cs = bs ((c.drop (m * k)).take k) := ⟨_, rfl⟩
      have HCS : Hid (cs = bs ((c.drop (m * k)).take k)) := hcs
      have S0 : Hid (cs.length = Nat.min (n - p) k) := copy_len HCS HP HL
      have S1 : Hid (∀ j v, cs[j]? = some v → w3.cell? ((⟨ab, ao + p, none⟩ : Addr).add j) = some v) := copy_src HCS HP hla
      have S2 : Hid (0 + cs.length ≤ (List.replicate k (Value.int .u8 0)).length) := copy_fit S0
      have S3 : Hid (∀ v ∈ cs, v.oneCell' = true) := bs_one HCS
      have hw1 : IntKind.i64.wrap (p : Int) = (p : Int) := by rw [IntKind.wrap_i64]; omega
      have hw2 : (p : Int) ≤ (n : Int) := by omega
      have hw3 : ¬ cap = p := by omega
      have hw4 : (0 : Int) ≤ (p : Int) := by omega
      clear hcs hla ha
      go_region_law (refine step_copy_row rfl (.tmp 36) (.tmp 42) 36 25 rfl 5 Tryd.underlying36 sizeU8 (w2.heap.size + 1 + m) 0 k k ⟨ab, ao + p, none⟩ (n - p) (cap - p) (by simp [Act.eval, Act.put]) (by simp [Act.eval, Act.put]) (List.replicate k (Value.int .u8 0)) cs 5 Q3.out S0.out S1.out S2.out S3.out ?_)
      all_goals
        clear q1 q2 Q3 S0 S1 S2 S3 hw1 hw2 hw3 hw4 hpi
        have HN2 : Hid (CutInv w (w3.drew.setRow (w2.heap.size + 1 + m) (splice (List.replicate k (Value.int IntKind.u8 0)) 0 cs).toArray) w.heap.size w2.heap.size n k nb c (m + 1)) := HM.out.drew.next hgg (Nat.le_refl _) HL HCS
        clear HM
        generalize (w3.drew.setRow (w2.heap.size + 1 + m) (splice (List.replicate k (Value.int IntKind.u8 0)) 0 cs).toArray) = w4 at *
        go_wp2
        go_roundw
        case rel => exact ⟨m + 1, by omega, by go_num, HN2⟩
        case measure => simp [intOf]; omega
    · have hmn : m = nb := by omega
      have HMN : Hid (m = nb) := hmn
      clear hmn
      go_wp2
      go_ret2
      have h := hI.out
      rw [HMN.out] at h
      exact ⟨_, rfl, by omega, h.2.1, h.2.2.1, h.2.2.2.2⟩

def cutBl (g nb k : Nat) (c : List UInt8) : List Blk := (List.range nb).map fun j => ⟨some ⟨g + 1 + j, 0, none⟩, k, piece k j c⟩

theorem cutBl_val (g nb k : Nat) (c : List UInt8) : (cutBl g nb k c).map Blk.val = (List.range nb).map (rowAt g k nb) := by
  unfold cutBl
  rw [List.map_map]
  apply List.map_congr_left
  intro j hj
  have hj : j < nb := by simpa using hj
  simp [Blk.val, rowAt, hj, piece_length]

theorem cutBl_l (g nb k : Nat) (c : List UInt8) : (cutBl g nb k c).map Blk.l = cutL nb k c := by simp [cutBl, cutL]

/-- cut.Cut -/
theorem cut_any (B K : Int) (a : Option Addr) (cap : Nat) (c : List UInt8) (w : World) (hB : I64 B) (hK : I64 K) (hn : c.length ≤ maxLen) (hcap : c.length ≤ cap) (ha : Lies w a (bs c)) :
    Calls Tryd.prog 22 #[.agg #[.int .i64 B, .int .i64 K], .slice a c.length cap] w fun e w' => ∃ a' bl, e = .returned (.tuple #[.slice a' bl.length bl.length, .int .i64 (cutCode B K c)]) ∧ Lies w' a' (bl.map Blk.val) ∧ AllIn w' bl ∧ Caps bl ∧
      bl.map Blk.l = cutRes B K c ∧ Below w.heap.size w w' := by
  by_cases h : cutCode B K c = 0
  · obtain ⟨n, k, nb, g, hl⟩ := cutCode_zero h
    obtain ⟨e1, e2⟩ := cutCode_good g hl
    rw [hl] at hcap ⊢
    refine (cut_good B K n k nb a cap c w g hl hcap ha).mono ?_
    rintro e w' ⟨g', rfl, hg, hrow, hbl, hb⟩
    have hlen : (cutBl g' nb k c).length = nb := by simp [cutBl]
    refine ⟨some ⟨g', 0, none⟩, cutBl g' nb k c, by rw [hlen, h], by rw [cutBl_val]; exact rowIs_lies hrow, ?_, ?_, by rw [cutBl_l, e2], hb⟩
    · intro b hb
      obtain ⟨j, hj, rfl⟩ := List.mem_map.1 hb
      have hj : j < nb := by simpa using hj
      refine ⟨row_lies (hbl j hj) (piece_length _ _ _), ?_⟩
      show (piece k j c).length ≤ maxLen
      rw [piece_length]
      have := g.k2
      unfold maxLen
      omega
    · intro b hb
      obtain ⟨j, hj, rfl⟩ := List.mem_map.1 hb
      exact Nat.le_of_eq (piece_length _ _ _)
  · refine (cut_bad B K a cap c w hB hK hn h).mono ?_
    rintro e w' ⟨rfl, hb⟩
    exact ⟨none, [], rfl, Lies.nil _ _, fun b hb => by simp at hb, fun b hb => by simp at hb, by simp [cutRes, h], hb⟩

end Go.Proofs.YtkiejflgphjfjacDoor

/-
  Chapter 4's Check, the reference's and the program's: the contract of each.
-/
namespace Go.Proofs.YtkiejflgphjfjacDoor
open Go.RowKit
set_option linter.unusedVariables false
set_option linter.unusedSimpArgs false

/-- how Check answers -/
def chkS (B K id : Int) (n : Nat) : Int := if chkP B K ≠ 0 then chkP B K else if id < 0 ∨ 9999 < id then 3 else if (n : Int) ≠ K then 4 else 0

theorem chkS_plan {B K id : Int} {n : Nat} (h : chkP B K ≠ 0) : chkS B K id n = chkP B K := if_pos h
theorem chkS_id {B K id : Int} {n : Nat} (h : chkP B K = 0) (hi : id < 0 ∨ 9999 < id) : chkS B K id n = 3 := by rw [chkS, if_neg (by simp [h]), if_pos hi]
theorem chkS_form {B K id : Int} {n : Nat} (h : chkP B K = 0) (hi : ¬ (id < 0 ∨ 9999 < id)) (hn : (n : Int) ≠ K) : chkS B K id n = 4 := by rw [chkS, if_neg (by simp [h]), if_neg hi, if_pos hn]
theorem chkS_ok {B K id : Int} {n : Nat} (h : chkP B K = 0) (hi : ¬ (id < 0 ∨ 9999 < id)) (hn : (n : Int) = K) : chkS B K id n = 0 := by rw [chkS, if_neg (by simp [h]), if_neg hi, if_neg (by simp [hn])]

/-- a symbol's box -/
def BoxS (w : World) (g : Nat) (id : Int) (d : Value) : Prop := w.cell? ⟨g, 0, none⟩ = some (.int .i64 id) ∧ w.cell? ⟨g, 1, none⟩ = some d

theorem BoxS.mk (w : World) (id : Int) (d : Value) (t : TypeId) : BoxS (w.alloc (.cells #[.int .i64 id, d] t)) w.heap.size id d := by
  have h := Lies.alloc_new w #[.int .i64 id, d] t
  exact ⟨h.at (k := 0) rfl, h.at (k := 1) rfl⟩

theorem BoxS.below {w w1 : World} {g : Nat} {id : Int} {d : Value} (h : BoxS w g id d) (hb : Below w.heap.size w w1) : BoxS w1 g id d := by
  have h1 := World.block_lt_of_cell? w _ h.1
  simp at h1
  exact ⟨by rw [(bcell hb).1 g 0 h1]; exact h.1, by rw [(bcell hb).1 g 1 h1]; exact h.2⟩

/-- the boxes of a plan and a symbol, behind a call -/
theorem boxes2 {w w1 : World} {B K id : Int} {d : Value} {t u : TypeId}
    (hb : Below ((w.alloc (.cells #[.int .i64 B, .int .i64 K] t)).alloc (.cells #[.int .i64 id, d] u)).heap.size ((w.alloc (.cells #[.int .i64 B, .int .i64 K] t)).alloc (.cells #[.int .i64 id, d] u)) w1) :
    w1.cell? ⟨w.heap.size, 0, none⟩ = some (.int .i64 B) ∧ w1.cell? ⟨w.heap.size, 1, none⟩ = some (.int .i64 K) ∧ w1.cell? ⟨w.heap.size + 1, 0, none⟩ = some (.int .i64 id) ∧ w1.cell? ⟨w.heap.size + 1, 1, none⟩ = some d := by
  have h1 := ((Boxed.mk w B K t).below ((Below.refl _ _).alloc (Nat.le_refl _) (.cells #[.int .i64 id, d] u))).below hb
  have h2 := (BoxS.mk (w.alloc (.cells #[.int .i64 B, .int .i64 K] t)) id d u).below hb
  have e : (w.alloc (.cells #[.int .i64 B, .int .i64 K] t)).heap.size = w.heap.size + 1 := by simp
  rw [e] at h2
  exact ⟨h1.1, h1.2, h2.1, h2.2⟩

theorem checkSymbol_any (B K id : Int) (a : Option Addr) (n cap : Nat) (w : World) (hB : I64 B) (hK : I64 K) (hn : n ≤ maxLen) :
    Calls Tryd.prog 37 #[.agg #[.int .i64 B, .int .i64 K], .agg #[.int .i64 id, .slice a n cap]] w fun e w' => e = .returned (.int .i64 (chkS B K id n)) ∧ Below w.heap.size w w' := by
  unfold maxLen at hn
  by_cases hc : chkP B K = 0
  · have HC := Shut.mk hc
    go_enter Tryd.func37, Tryd.ntmps37
    go_wp2_with fail
    refine (checkPlan_any B K _ hB hK).mono ?_
    rintro e w1 ⟨rfl, hb⟩
    obtain ⟨x0, x1, y0, y1⟩ := boxes2 hb
    have hb := boxBelow (boxBelow hb)
    rw [HC.out]
    by_cases h1 : 0 ≤ id ∧ id ≤ 9999
    · have H1 := Shut.mk (decide_eq_true h1)
      have hi : ¬ (id < 0 ∨ 9999 < id) := by omega
      by_cases h2 : (n : Int) = K
      · have h2' : ((n : Int) != K) = false := by simpa using h2
        have HA := Shut.mk (chkS_ok hc hi h2)
        clear h1 hi h2 hc
        go_wp2_with fail
        refine (in_any id 0 9999 _).mono ?_
        rintro e w2 ⟨rfl, rfl⟩
        rw [H1.out]
        go_wp2
        go_ret
        exact ⟨ret_int HA.out.symm, hb⟩
      · have h2' : ((n : Int) != K) = true := by simpa using h2
        have HA := Shut.mk (chkS_form hc hi h2)
        clear h1 hi h2 hc
        go_wp2_with fail
        refine (in_any id 0 9999 _).mono ?_
        rintro e w2 ⟨rfl, rfl⟩
        rw [H1.out]
        go_wp2
        go_ret
        exact ⟨ret_int HA.out.symm, hb⟩
    · have H1 := Shut.mk (decide_eq_false h1)
      have HA := Shut.mk (chkS_id (id := id) (n := n) hc (by omega))
      clear h1 hc
      go_wp2_with fail
      refine (in_any id 0 9999 _).mono ?_
      rintro e w2 ⟨rfl, rfl⟩
      rw [H1.out]
      go_wp2
      go_ret
      exact ⟨ret_int HA.out.symm, hb⟩
  · have hc' : (chkP B K != 0) = true := by simpa using hc
    have HA := Shut.mk (chkS_plan (id := id) (n := n) hc)
    clear hc
    go_enter Tryd.func37, Tryd.ntmps37
    go_wp2_with fail
    refine (checkPlan_any B K _ hB hK).mono ?_
    rintro e w1 ⟨rfl, hb⟩
    have hb := boxBelow (boxBelow hb)
    go_wp2
    go_ret
    exact ⟨ret_int HA.out.symm, hb⟩

theorem codeCheck_any (B K id : Int) (a : Option Addr) (n cap : Nat) (w : World) (hB : I64 B) (hK : I64 K) (hn : n ≤ maxLen) :
    Calls Tryd.prog 61 #[.agg #[.int .i64 B, .int .i64 K], .agg #[.int .i64 id, .slice a n cap]] w fun e w' => e = .returned (.int .i64 (chkS B K id n)) ∧ Below w.heap.size w w' := by
  unfold maxLen at hn
  by_cases hc : chkP B K = 0
  · have HC := Shut.mk hc
    go_enter Tryd.func61, Tryd.ntmps61
    go_wp2_with fail
    refine (cutCheck_any B K _ hB hK).mono ?_
    rintro e w1 ⟨rfl, hb⟩
    obtain ⟨x0, x1, y0, y1⟩ := boxes2 hb
    have hb := boxBelow (boxBelow hb)
    rw [HC.out]
    by_cases h1 : 0 ≤ id ∧ id ≤ 9999
    · have hi : ¬ (id < 0 ∨ 9999 < id) := by omega
      by_cases h2 : (n : Int) = K
      · have h2' : ((n : Int) != K) = false := by simpa using h2
        have HA := Shut.mk (chkS_ok hc hi h2)
        obtain ⟨h3, h4⟩ := h1
        clear hi h2 hc
        go_wp2
        go_ret
        exact ⟨ret_int HA.out.symm, hb⟩
      · have h2' : ((n : Int) != K) = true := by simpa using h2
        have HA := Shut.mk (chkS_form hc hi h2)
        obtain ⟨h3, h4⟩ := h1
        clear hi h2 hc
        go_wp2
        go_ret
        exact ⟨ret_int HA.out.symm, hb⟩
    · have HA := Shut.mk (chkS_id (id := id) (n := n) hc (by omega))
      have h3 : id < 0 ∨ 9999 < id := by omega
      clear h1 hc
      rcases h3 with h3 | h3
      · go_wp2
        go_ret
        exact ⟨ret_int HA.out.symm, hb⟩
      · have h4 : 0 ≤ id := by omega
        go_wp2
        go_ret
        exact ⟨ret_int HA.out.symm, hb⟩
  · have hc' : (chkP B K != 0) = true := by simpa using hc
    have HA := Shut.mk (chkS_plan (id := id) (n := n) hc)
    clear hc
    go_enter Tryd.func61, Tryd.ntmps61
    go_wp2_with fail
    refine (cutCheck_any B K _ hB hK).mono ?_
    rintro e w1 ⟨rfl, hb⟩
    have hb := boxBelow (boxBelow hb)
    go_wp2
    go_ret
    exact ⟨ret_int HA.out.symm, hb⟩

end Go.Proofs.YtkiejflgphjfjacDoor

/-
  Chapter 5's Decode, pure: symbols told by lists; what Decode answers.
-/
namespace Go.Proofs.YtkiejflgphjfjacDoor
open Go.RowKit
set_option linter.unusedVariables false
set_option linter.unusedSimpArgs false

/-- a symbol, told by its number and its bytes -/
abbrev LSym := Int × List UInt8

/-- its row -/
noncomputable def rowOf (nb : Nat) (y : LSym) : LRow := (maskL nb y.1.toNat, y.2)

/-- one symbol more: a code, and the rows -/
noncomputable def stepL (B K : Int) (nb : Nat) (A : List LRow) (y : LSym) : Int × List LRow :=
  if chkS B K y.1 y.2.length ≠ 0 then (chkS B K y.1 y.2.length, []) else match addL A (rowOf nb y) with
    | none => (9, [])
    | some P => (0, P)

/-- symbols one by one -/
noncomputable def allL (B K : Int) (nb : Nat) : List LRow → List LSym → Int × List LRow
  | A, [] => (0, A)
  | A, y :: l => if (stepL B K nb A y).1 ≠ 0 then ((stepL B K nb A y).1, []) else allL B K nb (stepL B K nb A y).2 l

/-- what Decode's code is -/
noncomputable def decCode (B K : Int) (l : List LSym) : Int :=
  if chkP B K ≠ 0 then chkP B K else if 60 < l.length then 2 else if (allL B K (nB B K).toNat [] l).1 ≠ 0 then (allL B K (nB B K).toNat [] l).1 else
    if (allL B K (nB B K).toNat [] l).2.length < (nB B K).toNat then 8 else joinCode B K (knownL (nB B K).toNat (allL B K (nB B K).toNat [] l).2)

/-- .. and its bytes -/
noncomputable def decRes (B K : Int) (l : List LSym) : List UInt8 :=
  if chkP B K ≠ 0 then [] else if 60 < l.length then [] else if (allL B K (nB B K).toNat [] l).1 ≠ 0 then [] else
    if (allL B K (nB B K).toNat [] l).2.length < (nB B K).toNat then [] else joinRes B K (knownL (nB B K).toNat (allL B K (nB B K).toNat [] l).2)

theorem stepL_chk {B K : Int} {nb : Nat} {A : List LRow} {y : LSym} (h : chkS B K y.1 y.2.length ≠ 0) : stepL B K nb A y = (chkS B K y.1 y.2.length, []) := if_pos h
theorem stepL_torn {B K : Int} {nb : Nat} {A : List LRow} {y : LSym} (h : chkS B K y.1 y.2.length = 0) (ha : addL A (rowOf nb y) = none) : stepL B K nb A y = (9, []) := by
  unfold stepL
  rw [if_neg (by rw [h]; simp), ha]
theorem stepL_ok {B K : Int} {nb : Nat} {A P : List LRow} {y : LSym} (h : chkS B K y.1 y.2.length = 0) (ha : addL A (rowOf nb y) = some P) : stepL B K nb A y = (0, P) := by
  unfold stepL
  rw [if_neg (by rw [h]; simp), ha]

theorem allL_bad {B K : Int} {nb : Nat} {A : List LRow} {y : LSym} {l : List LSym} (h : (stepL B K nb A y).1 ≠ 0) : allL B K nb A (y :: l) = ((stepL B K nb A y).1, []) := if_pos h
theorem allL_go {B K : Int} {nb : Nat} {A : List LRow} {y : LSym} {l : List LSym} (h : (stepL B K nb A y).1 = 0) : allL B K nb A (y :: l) = allL B K nb (stepL B K nb A y).2 l := if_neg (by rw [h]; simp)

/-- a symbol that Check takes -/
theorem chkS_zero {B K id : Int} {m n k nb : Nat} (g : Good B K n k nb) (h : chkS B K id m = 0) : ∃ i : Nat, id = i ∧ i ≤ 9999 ∧ m = k := by
  have hp := chkP_good g
  unfold chkS at h
  rw [if_neg (by rw [hp]; simp)] at h
  split at h
  · omega
  · rename_i h1
    split at h
    · omega
    · rename_i h2
      refine ⟨id.toNat, by omega, by omega, ?_⟩
      have := g.eK
      omega

theorem rowOf_fits {nb k : Nat} {y : LSym} (h : y.2.length = k) : Fits nb k (rowOf nb y) := ⟨maskL_length nb _, h⟩

theorem stepL_right {B K : Int} {n k nb : Nat} {A : List LRow} {y : LSym} (g : Good B K n k nb) (hA : Right nb k A) (h : (stepL B K nb A y).1 = 0) : addL A (rowOf nb y) = some (stepL B K nb A y).2 ∧ y.2.length = k ∧ Right nb k (stepL B K nb A y).2 := by
  by_cases hc : chkS B K y.1 y.2.length = 0
  · obtain ⟨i, _, _, hk⟩ := chkS_zero g hc
    cases ha : addL A (rowOf nb y) with
    | none => rw [stepL_torn hc ha] at h; simp at h
    | some P =>
      rw [stepL_ok hc ha]
      exact ⟨rfl, hk, (addL_right hA (rowOf_fits hk) ha).1⟩
  · rw [stepL_chk hc] at h
    exact absurd h hc

end Go.Proofs.YtkiejflgphjfjacDoor
