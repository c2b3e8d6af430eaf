/-
  slices.EqualFunc over blocks, with the three closures of the statements; 'parted', the closed fact of chapter 2.
-/
import Derived.Test.YtdeeankioejnkaaEq
import Derived.Test.YtdeeankioejnkaaCut3
import Derived.Shelf.Abstract
namespace Go.Proofs.Ytdeeankioejnkaa
open Go.RowKit
set_option linter.unusedVariables false
set_option linter.unusedSimpArgs false

theorem cutSays1 (a b : Option Addr) (ca cb : Nat) (xs ys : List UInt8) (w : World) (hx : xs.length ≤ maxLen) (hy : ys.length ≤ maxLen) (ha : Lies w a (bs xs)) (hb : Lies w b (bs ys)) :
    Calls Try.prog 27 #[.slice a xs.length ca, .slice b ys.length cb] w fun e w' => e = .returned (.bool (decide (xs = ys))) ∧ ∃ n, w' = w.drewN n := by
  go_enter Try.func27, Try.ntmps27
  go_wp2_with fail
  refine (equalBlock a b ca cb xs ys hx hy ha hb).mono ?_
  rintro e w1 ⟨rfl, n, rfl⟩
  go_wp2
  go_ret
  exact ⟨rfl, _, rfl⟩

theorem cutBack1 (a b : Option Addr) (ca cb : Nat) (xs ys : List UInt8) (w : World) (hx : xs.length ≤ maxLen) (hy : ys.length ≤ maxLen) (ha : Lies w a (bs xs)) (hb : Lies w b (bs ys)) :
    Calls Try.prog 33 #[.slice a xs.length ca, .slice b ys.length cb] w fun e w' => e = .returned (.bool (decide (xs = ys))) ∧ ∃ n, w' = w.drewN n := by
  go_enter Try.func33, Try.ntmps33
  go_wp2_with fail
  refine (equalBlock a b ca cb xs ys hx hy ha hb).mono ?_
  rintro e w1 ⟨rfl, n, rfl⟩
  go_wp2
  go_ret
  exact ⟨rfl, _, rfl⟩

theorem cutBegins1 (a b : Option Addr) (ca cb : Nat) (xs ys : List UInt8) (w : World) (hx : xs.length ≤ maxLen) (hy : ys.length ≤ maxLen) (ha : Lies w a (bs xs)) (hb : Lies w b (bs ys)) :
    Calls Try.prog 34 #[.slice a xs.length ca, .slice b ys.length cb] w fun e w' => e = .returned (.bool (decide (xs = ys))) ∧ ∃ n, w' = w.drewN n := by
  go_enter Try.func34, Try.ntmps34
  go_wp2_with fail
  refine (equalBlock a b ca cb xs ys hx hy ha hb).mono ?_
  rintro e w1 ⟨rfl, n, rfl⟩
  go_wp2
  go_ret
  exact ⟨rfl, _, rfl⟩

theorem take_blk {xl yl : List Blk} {k : Nat} (h : Hid ((xl.map Blk.l).take k = (yl.map Blk.l).take k)) (h1 : k < xl.length) (h2 : k < yl.length) (e : Hid (xl[k].l = yl[k].l)) : (xl.map Blk.l).take (k + 1) = (yl.map Blk.l).take (k + 1) := by
  rw [List.take_succ_eq_append_getElem (by simpa using h1), List.take_succ_eq_append_getElem (by simpa using h2), h.out]
  simp [e.out]

set_option maxHeartbeats 400000 in
theorem equalFunc_any (f : Nat) (eg : ∀ args w, (callFunc f args).run Try.prog w = .ok (.enter f args) w) (hf : ∀ (a b : Option Addr) (ca cb : Nat) (xs ys : List UInt8) (w : World) (hx : xs.length ≤ maxLen) (hy : ys.length ≤ maxLen) (ha : Lies w a (bs xs)) (hb : Lies w b (bs ys)),
      Calls Try.prog f #[.slice a xs.length ca, .slice b ys.length cb] w fun e w' => e = .returned (.bool (decide (xs = ys))) ∧ ∃ n, w' = w.drewN n)
    (a b : Option Addr) (ca cb : Nat) (xl yl : List Blk) (w : World) (hx : xl.length ≤ maxLen) (hy : yl.length ≤ maxLen) (ha : Lies w a (xl.map Blk.val)) (hb : Lies w b (yl.map Blk.val)) (hxa : AllIn w xl) (hya : AllIn w yl) :
    Calls Try.prog 26 #[.slice a xl.length ca, .slice b yl.length cb, .func (.func f) #[] #[]] w fun e w' => e = .returned (.bool (decide (xl.map Blk.l = yl.map Blk.l))) ∧ ∃ n, w' = w.drewN n := by
  have HF := Hid.mk' hf
  clear hf
  unfold maxLen at hx hy
  by_cases hl : xl.length = yl.length
  · have hne : ((xl.length : Int) != (yl.length : Int)) = false := by simp [hl]
    have HL : Hid (xl.length = yl.length) := hl
    have hle : xl.length ≤ yl.length := by omega
    clear hl
    go_enter Try.func26, Try.ntmps26
    go_wp2
    go_loopw [17] (fun i wr => ∃ k nq : Nat, k ≤ xl.length ∧ i = .int .i64 k ∧ wr = w.drewN nq ∧ Hid ((xl.map Blk.l).take k = (yl.map Blk.l).take k)) (fun i _ => xl.length - (intOf i).toNat)
    case atStart => exact ⟨0, 0, Nat.zero_le _, rfl, rfl, rfl⟩
    case round =>
      obtain ⟨k, nq, hk, rfl, rfl, HE⟩ := hrel
      by_cases hlt : k < xl.length
      · obtain ⟨b1, o1, rfl⟩ := ha.some (k := k) (by simpa using hlt)
        obtain ⟨b2, o2, rfl⟩ := hb.some (k := k) (by simp; omega)
        have hlt2 : k < yl.length := by omega
        have h1 : w.cell? ⟨b1, o1 + k, none⟩ = some (.slice xl[k].a xl[k].l.length xl[k].cap) := ha.at (by simp [hlt, Blk.val])
        have h2 : w.cell? ⟨b2, o2 + k, none⟩ = some (.slice yl[k].a yl[k].l.length yl[k].cap) := hb.at (by simp [hlt2, Blk.val])
        have hkx := hxa xl[k] (by simp)
        have hky := hya yl[k] (by simp)
        clear ha hb
        go_wp2_with fail
        refine (HF.out _ _ _ _ xl[k].l yl[k].l _ hkx.2 hky.2 (hkx.1.drewN _) (hky.1.drewN _)).mono ?_
        rintro e w1 ⟨rfl, n1, rfl⟩
        clear hkx hky
        by_cases hd : xl[k].l = yl[k].l
        · have HD : Hid (xl[k].l = yl[k].l) := hd
          rw [decide_eq_true hd]
          clear hd
          go_wp2
          go_roundw
          case rel => exact ⟨k + 1, _, by omega, by go_num, rfl, take_blk HE hlt hlt2 HD⟩
          case measure => simp [intOf]; omega
        · have HD : Hid (¬ xl.map Blk.l = yl.map Blk.l) := fun e => by
            have h1 : (xl.map Blk.l)[k]? = (yl.map Blk.l)[k]? := by rw [e]
            simp [hlt, hlt2] at h1
            exact hd h1
          rw [decide_eq_false hd]
          clear hd
          go_wp2
          go_ret
          exact ⟨retB (decide_eq_false HD.out).symm, _, rfl⟩
      · have HD : Hid (xl.map Blk.l = yl.map Blk.l) := by
          have h := HE.out
          have hL := HL.out
          rw [List.take_of_length_le (by simp; omega), List.take_of_length_le (by simp; omega)] at h
          exact h
        clear ha hb
        go_wp2
        go_ret
        exact ⟨retB (decide_eq_true HD.out).symm, _, rfl⟩
  · have hne : ((xl.length : Int) != (yl.length : Int)) = true := by simp; omega
    have HD : Hid (¬ xl.map Blk.l = yl.map Blk.l) := fun e => hl (by have := congrArg List.length e; simpa using this)
    clear hl ha hb
    go_enter Try.func26, Try.ntmps26
    go_wp2
    go_ret
    exact ⟨retB (decide_eq_false HD.out).symm, 0, rfl⟩

theorem equalFunc_n (f : Nat) (eg : ∀ args w, (callFunc f args).run Try.prog w = .ok (.enter f args) w) (hf : ∀ (a b : Option Addr) (ca cb : Nat) (xs ys : List UInt8) (w : World) (hx : xs.length ≤ maxLen) (hy : ys.length ≤ maxLen) (ha : Lies w a (bs xs)) (hb : Lies w b (bs ys)),
      Calls Try.prog f #[.slice a xs.length ca, .slice b ys.length cb] w fun e w' => e = .returned (.bool (decide (xs = ys))) ∧ ∃ n, w' = w.drewN n)
    (a b : Option Addr) (n m ca cb : Nat) (xl yl : List Blk) (v : Bool) (w : World) (hn : xl.length = n) (hm : yl.length = m) (hv : decide (xl.map Blk.l = yl.map Blk.l) = v) (hx : n ≤ maxLen) (hy : m ≤ maxLen) (ha : Lies w a (xl.map Blk.val)) (hb : Lies w b (yl.map Blk.val)) (hxa : AllIn w xl) (hya : AllIn w yl) :
    Calls Try.prog 26 #[.slice a n ca, .slice b m cb, .func (.func f) #[] #[]] w fun e w' => e = .returned (.bool v) ∧ ∃ n, w' = w.drewN n := by
  subst hn hm hv
  exact equalFunc_any f eg hf a b ca cb xl yl w hx hy ha hb hxa hya

theorem equalBytes_n {w : World} (a b : Option Addr) (n m ca cb : Nat) (xs ys : List UInt8) (v : Bool) (hn : xs.length = n) (hm : ys.length = m) (hv : decide (xs = ys) = v) (hx : n ≤ maxLen) (hy : m ≤ maxLen)
    (ha : Lies w a (bs xs)) (hb : Lies w b (bs ys)) :
    Calls Try.prog 16 #[.slice a n ca, .slice b m cb] w fun e w' => e = .returned (.bool v) ∧ ∃ n, w' = w.drewN n := by
  subst hn hm hv
  exact equalBytes a b ca cb xs ys hx hy ha hb

theorem joinRes_len {B K : Int} {ls : List (List UInt8)} (h : joinCode B K ls = 0) : (joinRes B K ls).length ≤ maxLen := by
  obtain ⟨n, k, nb, g, hl, ha, hz⟩ := joinCode_zero h
  rw [(joinCode_good g hl ha hz).2, List.length_take]
  have := g.n2
  unfold maxLen
  omega

theorem enters27 : ∀ args w, (callFunc 27 args).run Try.prog w = .ok (.enter 27 args) w := enters_of Try.func27 (by kernel_rfl) rfl
theorem enters33 : ∀ args w, (callFunc 33 args).run Try.prog w = .ok (.enter 33 args) w := enters_of Try.func33 (by kernel_rfl) rfl
theorem enters34 : ∀ args w, (callFunc 34 args).run Try.prog w = .ok (.enter 34 args) w := enters_of Try.func34 (by kernel_rfl) rfl

theorem good523 : Good 5 2 5 2 3 := ⟨rfl, rfl, by decide, by decide, by decide, by decide, by decide, by decide, by decide, by decide, by decide⟩

theorem cutBl_in {w : World} {g nb k : Nat} {c : List UInt8} (hk : k ≤ 16) (hbl : ∀ j, j < nb → w.rowIs (g + 1 + j) 5 k (u8at (piece k j c))) : AllIn w (cutBl g nb k c) := by
  intro b hb
  obtain ⟨j, hj, rfl⟩ := List.mem_map.1 hb
  have hj : j < nb := by simpa using hj
  refine ⟨row_lies (hbl j hj) (piece_length _ _ _), ?_⟩
  show (piece k j c).length ≤ maxLen
  rw [piece_length]
  unfold maxLen
  omega

theorem cutBl_caps (g nb k : Nat) (c : List UInt8) : Caps (cutBl g nb k c) := by
  intro b hb
  obtain ⟨j, hj, rfl⟩ := List.mem_map.1 hb
  exact Nat.le_of_eq (piece_length _ _ _)

theorem joined523 (g : Nat) : joinCode 5 2 ((cutBl g 3 2 [1, 2, 3, 4, 5]).map Blk.l) = 0 ∧ joinRes 5 2 ((cutBl g 3 2 [1, 2, 3, 4, 5]).map Blk.l) = [1, 2, 3, 4, 5] := by
  rw [cutBl_l]
  decide

set_option maxHeartbeats 1000000 in
theorem parted_any (w : World) : Calls Try.prog 28 #[] w fun e w' => e = .returned (.bool true) ∧ Below w.heap.size w w' := by
  go_enter Try.func28, Try.ntmps28
  go_wp2_with fail
  have hsrc := Lies.alloc_new (w.alloc (.cells #[.int .i64 5, .int .i64 2] 45)) #[.int .u8 1, .int .u8 2, .int .u8 3, .int .u8 4, .int .u8 5] 5
  rw [size_alloc_eq] at hsrc
  refine (cut_good 5 2 5 2 3 _ 5 [1, 2, 3, 4, 5] _ good523 rfl (Nat.le_refl _) hsrc).mono ?_
  rintro e w1 ⟨g, rfl, hg, hrow, hbl, hb⟩
  have hx : Boxed w1 w.heap.size 5 2 := ((Boxed.mk w 5 2 45).below ((Below.refl _ _).alloc (Nat.le_refl _) _)).below hb
  have hb : Below w.heap.size w w1 := ((((Below.refl _ _).alloc (Nat.le_refl _) _).alloc (by simp) _).trans (hb.mono (by simp; omega)))
  have HX : Hid (Boxed w1 w.heap.size 5 2) := hx
  obtain ⟨x0, x1⟩ := hx
  clear hsrc hg
  go_wp2_with fail
  refine (join_good 5 2 5 2 3 _ 3 (cutBl g 3 2 [1, 2, 3, 4, 5]) _ good523 rfl (by rw [cutBl_val]; exact rowIs_lies hrow) (cutBl_in (by decide) hbl) (cutBl_caps _ _ _ _)).mono ?_
  rw [(joined523 g).1, (joined523 g).2, show ([1, 2, 3, 4, 5] : List UInt8).length = 5 from rfl]
  rintro e w2 ⟨a2, rfl, hl2, hb2⟩
  have hl3 := (row_lies (hbl 2 (by decide)) rfl).below hb2 (Nat.le_refl _)
  rw [show piece 2 2 [1, 2, 3, 4, 5] = [5, 0] by decide] at hl3
  have hc3 : w2.cell? ⟨g, 2, none⟩ = some (.slice (some ⟨g + 1 + 2, 0, none⟩) 2 2) := by
    rw [(bcell hb2).1 g 2 hrow.lt]
    exact hrow.cell (i := 2) (by decide)
  have hb := hb.trans (hb2.mono hb.size)
  have hgw : g < w2.heap.size := by have := hrow.lt; have := hb2.size; omega
  clear hrow hbl hb2 x0 x1 HX
  go_wp2_with fail
  refine (equalBlock _ _ _ _ [5, 0] [5, 0] (by decide) (by decide) (hl3.alloc _) (Lies.alloc_new _ #[.int .u8 5, .int .u8 0] 5)).mono ?_
  rintro e w3 ⟨rfl, n3, rfl⟩
  have hd : decide (([5, 0] : List UInt8) = [5, 0]) = true := by decide
  rw [hd]
  go_wp2_with fail
  have hnw := Lies.alloc_new ((w2.alloc (.cells #[.int .u8 5, .int .u8 0] 5)).drewN n3) #[.int .u8 1, .int .u8 2, .int .u8 3, .int .u8 4, .int .u8 5] 5
  rw [show ((w2.alloc (.cells #[.int .u8 5, .int .u8 0] 5)).drewN n3).heap.size = w2.heap.size + 1 by simp] at hnw
  refine (equalBytes _ _ _ _ [1, 2, 3, 4, 5] [1, 2, 3, 4, 5] (by decide) (by decide) (((hl2.alloc _).drewN _).alloc _) hnw).mono ?_
  rintro e w4 ⟨rfl, n4, rfl⟩
  go_wp2
  go_ret
  refine ⟨by simp, ?_⟩
  exact (((hb.alloc hb.size _).trans (bdn _ _ _)).alloc (by simp; have := hb.size; omega) _).trans (bdn _ _ _)

end Go.Proofs.Ytdeeankioejnkaa
