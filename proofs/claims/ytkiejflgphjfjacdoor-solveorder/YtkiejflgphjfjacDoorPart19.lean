import Derived.Test.YtkiejflgphjfjacDoorPart18
import Derived.Test.YtkiejflgphjfjacDoorPart16
import Derived.Test.YtkiejflgphjfjacDoorPart15
import Derived.Test.YtkiejflgphjfjacDoorPart17
import Derived.RegionTactic
import Derived.BigRegion
import Derived.Deep.RegionLaw
/-
  slices.Grow of nothing and slices.Concat at numbers: the contract of each.
-/
namespace Go.Proofs.YtkiejflgphjfjacDoor
open Go.RowKit
set_option linter.unusedVariables false
set_option linter.unusedSimpArgs false

/-- a list of numbers in memory -/
structure IBlk where
  a : Option Addr
  cap : Nat
  l : List Int

def IBlk.val (b : IBlk) : Value := .slice b.a b.l.length b.cap
def is (l : List Int) : List Value := l.map (Value.int .i64)
theorem isl_length (l : List Int) : (is l).length = l.length := by simp [is]

set_option maxRecDepth 8000 in
set_option maxHeartbeats 1000000 in
theorem growI_nil (s : Nat) (w : World) (hs : s ≤ 65536) :
    Calls Tryd.prog 44 #[.slice none 0 0, .int .i64 s] w fun e w' => ∃ v, e = .returned v ∧ w'.ownsRow w.heap.size 3 1 v 0 [] ∧ Below w.heap.size w w' := by
  obtain ⟨i0, hi, hz0, hz1, hz2⟩ := info_parts infoI
  by_cases h0 : s = 0
  · subst h0
    go_enter Tryd.func44, Tryd.ntmps44
    go_wp2
    go_ret
    exact ⟨_, rfl, World.ownsRow_nil _ _ _ _, Below.refl _ _⟩
  · have h1 : 0 < s := by omega
    have h2 : (0 : Int) < (s : Int) := by omega
    clear h0
    have hrz : ∀ ty, (Builtin.append_ #[32, 3] ty #[.slice none 0 0, .int .i64 s]).run Tryd.prog w = .ok (.slice (some ⟨w.heap.size, 0, none⟩) s (grownCap w s 0 3)) (w.drew.alloc (.cells (Builtin.zeroCells #[.int .i64 0] s ++ Builtin.zeroCells #[.int .i64 0] (grownCap w s 0 3 - s)) 3)) := fun ty =>
      Lib.run_append_nil_zeros w 32 3 ty 3 i0 (.int .i64 0) .i64 .i64 Tryd.underlying32 Tryd.underlying3 hi hz0 s h1 (by omega) (by omega) (by rw [hz2]; omega)
    have hGn : s ≤ grownCap w s 0 3 := grownCap_ge w _ _ _
    have hG63 := grownCap_le_maxLen w s 0 3 (by unfold maxLen; omega)
    have HR : Hid ((w.drew.alloc (.cells (Builtin.zeroCells #[.int .i64 0] s ++ Builtin.zeroCells #[.int .i64 0] (grownCap w s 0 3 - s)) 3)).ownsRow w.heap.size 3 1 (.slice (some ⟨w.heap.size, 0, none⟩) 0 (grownCap w s 0 3)) 0 []) :=
      ⟨rfl, .inr ⟨w.heap.size, _, _, rfl, Nat.le_refl _, (heap_alloc_eq w.drew _ _).trans (if_pos rfl), Nat.zero_le _, hG63, by simp [zeroCells_size]; omega, rfl⟩⟩
    generalize grownCap w s 0 3 = G at *
    unfold maxLen at hG63
    have hG : (G : Int) ≤ 9223372036854775807 := by omega
    clear hG63
    go_enter Tryd.func44, Tryd.ntmps44
    go_wp2_with (at_builtin; refine Lib.wpList_append_run _ rfl _ _ _ _ rfl _ _ rfl rfl _ _ (hrz _) ?_)
    all_goals
      go_ret
      exact ⟨_, rfl, HR.out, (Below.refl _ _).drew.alloc (Nat.le_refl _) _⟩

/-- how many bytes the first m have -/
def totI (bl : List IBlk) (m : Nat) : Nat := (((bl.map IBlk.l).take m).flatten).length

theorem totI_succ {bl : List IBlk} {m : Nat} (h : m < bl.length) : totI bl (m + 1) = totI bl m + bl[m].l.length := by
  unfold totI
  rw [List.take_succ_eq_append_getElem (by simpa using h)]
  simp

theorem totI_le (bl : List IBlk) (m : Nat) : totI bl m ≤ ((bl.map IBlk.l).flatten).length := by
  unfold totI
  have h := congrArg (fun l => l.flatten.length) (List.take_append_drop m (bl.map IBlk.l))
  simp only [List.flatten_append, List.length_append] at h
  omega

theorem concatI_step {w wr w1 : World} {v v' : Value} {bl : List IBlk} {m : Nat} (hlt : m < bl.length) (hb : Below w.heap.size w wr) (ho : wr.ownsRow w.heap.size 3 1 v (totI bl m) (is ((bl.map IBlk.l).take m).flatten))
    (ho' : w1.ownsRow w.heap.size 3 1 v' (totI bl m + bl[m].l.length) (is ((bl.map IBlk.l).take m).flatten ++ is bl[m].l)) (hg : wr.grownBy w1 v.ownBlock) :
    w1.ownsRow w.heap.size 3 1 v' (totI bl (m + 1)) (is ((bl.map IBlk.l).take (m + 1)).flatten) ∧ Below w.heap.size w w1 := by
  refine ⟨?_, hb.grown hg hb.size fun g hg' => (ho.lt g hg').1⟩
  rw [totI_succ hlt, List.take_succ_eq_append_getElem (by simpa using hlt)]
  simpa [is] using ho'

theorem liesI_none {w : World} {l : List Int} (h : Lies w none (is l)) : l = [] := by
  cases l with
  | nil => rfl
  | cons x r =>
    obtain ⟨_, _, e, _⟩ := h 0 _ (by simp [is]; rfl)
    simp at e

theorem liesI_add {w : World} {ad : Addr} {l : List Int} (h : Lies w (some ad) (is l)) : ∀ j u, (is l)[j]? = some u → w.cell? (ad.add j) = some u := by
  intro j u hu
  obtain ⟨b, o, e, hc⟩ := h j u hu
  simp at e
  subst e
  simpa [Addr.add_lit] using hc

set_option maxRecDepth 8000 in
set_option maxHeartbeats 1000000 in
theorem concatI_any (a : Option Addr) (cap : Nat) (bl : List IBlk) (w : World) (hn : bl.length ≤ maxLen) (htot : ((bl.map IBlk.l).flatten).length ≤ 65536) (ha : Lies w a (bl.map IBlk.val)) (hall : ∀ b ∈ bl, Lies w b.a (is b.l)) :
    Calls Tryd.prog 21 #[.slice a bl.length cap] w fun e w' => ∃ v, e = .returned v ∧ w'.ownsRow w.heap.size 3 1 v ((bl.map IBlk.l).flatten).length (is (bl.map IBlk.l).flatten) ∧ Below w.heap.size w w' := by
  obtain ⟨i0, hi, hz0, hz1, hz2⟩ := info_parts infoI
  have HT : Hid (((bl.map IBlk.l).flatten).length ≤ 65536) := htot
  unfold maxLen at hn
  clear htot
  go_enter Tryd.func21, Tryd.ntmps21
  go_wp2
  go_loop [3, 11] (fun c i => ∃ m : Nat, m ≤ bl.length ∧ i = .int .i64 m ∧ c = .int .i64 (totI bl m)) (fun _ i => bl.length - (intOf i).toNat)
  case atStart => exact ⟨0, Nat.zero_le _, rfl, rfl⟩
  case round =>
    obtain ⟨m, hm, rfl, rfl⟩ := hrel
    by_cases hlt : m < bl.length
    · obtain ⟨b1, o1, rfl⟩ := ha.some (k := m) (by simpa using hlt)
      have h1 : w.cell? ⟨b1, o1 + m, none⟩ = some (.slice bl[m].a bl[m].l.length bl[m].cap) := ha.at (by simp [hlt, IBlk.val])
      have hs := totI_succ hlt
      have hle := totI_le bl (m + 1)
      have := HT.out
      have hb1 : totI bl m ≤ 65536 := by omega
      have hb2 : bl[m].l.length ≤ 65536 := by omega
      have HS : Hid (totI bl (m + 1) = totI bl m + bl[m].l.length) := hs
      clear hs hle this
      go_wp2
      go_round
      case rel => exact ⟨m + 1, by omega, by go_num, congrArg (Value.int .i64) (by rw [HS.out]; simp)⟩
      case measure => simp [intOf]; omega
    · have HM : Hid (m = bl.length) := by have : m = bl.length := by omega
                                          exact this
      have hle := totI_le bl m
      have := HT.out
      have hb1 : totI bl m ≤ 65536 := by omega
      clear hle this
      go_wp2_with fail
      refine (growI_nil _ _ hb1).mono ?_
      rintro e w1 ⟨v1, rfl, ho1, hb⟩
      clear hb1
      go_wp2
      go_loopw [6, 27] (fun v i wr => ∃ m : Nat, m ≤ bl.length ∧ i = .int .i64 m ∧ wr.ownsRow w.heap.size 3 1 v (totI bl m) (is ((bl.map IBlk.l).take m).flatten) ∧ Below w.heap.size w wr) (fun _ i _ => bl.length - (intOf i).toNat)
      case atStart => exact ⟨0, Nat.zero_le _, rfl, ho1, hb⟩
      case round =>
        clear ho1 hb
        obtain ⟨m, hm, rfl, hown, hbw⟩ := hrel
        by_cases hlt : m < bl.length
        · obtain ⟨b1, o1, rfl⟩ := ha.some (k := m) (by simpa using hlt)
          have h1 : wr.cell? ⟨b1, o1 + m, none⟩ = some (.slice bl[m].a bl[m].l.length bl[m].cap) := (ha.below hbw (Nat.le_refl _)).at (by simp [hlt, IBlk.val])
          have hla := (hall bl[m] (by simp)).below hbw (Nat.le_refl _)
          have hsz := hbw.size
          have hs := totI_succ hlt
          have hle := totI_le bl (m + 1)
          have := HT.out
          have hb1 : totI bl m + bl[m].l.length ≤ 65536 := by omega
          have HS : Hid (totI bl (m + 1) = totI bl m + bl[m].l.length) := hs
          clear hs hle this
          cases had : bl[m].a with
          | none =>
            rw [had] at h1 hla
            have HE : Hid (bl[m].l = []) := liesI_none hla
            have h0 : bl[m].l.length = 0 := by rw [HE.out]; rfl
            rw [h0] at h1
            obtain ⟨p6, q6, rfl, hq6⟩ := own_slice hown
            have hq : p6 = none → q6 = 0 := fun e => by subst e; exact own_none hown
            have R : Hid (wr.ownsRow w.heap.size 3 1 (.slice p6 (totI bl m) q6) (totI bl (m + 1)) (is ((bl.map IBlk.l).take (m + 1)).flatten)) := by
              show wr.ownsRow w.heap.size 3 1 (.slice p6 (totI bl m) q6) (totI bl (m + 1)) (is ((bl.map IBlk.l).take (m + 1)).flatten)
              rw [HS.out, List.take_succ_eq_append_getElem (by simpa using hlt)]
              simpa [h0, HE.out] using hown
            clear had hla h0 hown hb1
            go_wp2_with (first | (at_builtin; refine Lib.wpList_append_run _ rfl _ _ _ _ rfl _ _ rfl rfl _ _ (run_append_nothing _ _ _ 3 i0 Tryd.underlying32 hi _ _ _ _ hq6) ?_) | go_in)
            go_roundw
            case rel => exact ⟨m + 1, by omega, by go_num, R.out, hbw⟩
            case measure => simp [intOf]; omega
          | some ad =>
            rw [had] at h1 hla
            clear had
            go_wp2_with (first | (at_builtin; refine wpList_append_own _ rfl _ _ 32 rfl w.heap.size 3 i0 (.int .i64 0) 1 8 Tryd.underlying32 hi hz0 hz1 hz2 rfl (by decide) _ _ _ rfl hown ad bl[m].l.length bl[m].cap (is bl[m].l) rfl ?c0 ?c1 ?c2 ?c3 ?c4 ?c5 ?_) | go_in)
            case c0 => simp [isl_length]
            case c1 => exact liesI_add hla
            case c2 =>
              intro u hu
              obtain ⟨x, _, rfl⟩ := List.mem_map.1 hu
              rfl
            case c3 => unfold maxLen; omega
            case c4 => omega
            case c5 => omega
            intro v' w1 hown' hgrow _
            have R := concatI_step hlt hbw hown hown' hgrow
            clear hown' hgrow hown hbw h1 hla
            go_wp2
            go_roundw
            case rel => exact ⟨m + 1, by omega, by go_num, R.1, R.2⟩
            case measure => simp [intOf]; omega
        · have HK : Hid (m = bl.length) := by have : m = bl.length := by omega
                                              exact this
          go_wp2
          go_ret
          refine ⟨_, rfl, ?_, hbw⟩
          have hk := HK.out
          subst hk
          unfold totI at hown
          rwa [List.take_of_length_le (by simp)] at hown

end Go.Proofs.YtkiejflgphjfjacDoor

/-
  SolveOrder: what Decode answers by which numbers come, whatever their order.
-/
namespace Go.Proofs.YtkiejflgphjfjacDoor
open Go.RowKit
set_option linter.unusedVariables false

theorem code_two {B K : Int} {n k nb : Nat} (g : Good B K n k nb) {c : List UInt8} (hc : c.length = n) {ids : List Nat} (hi : ∀ i ∈ ids, i ≤ 9999) (hl : ids.length ≤ 60) :
    decCode B K (ids.map (symOf nb k c)) = 8 ∨ decCode B K (ids.map (symOf nb k c)) = 0 := by
  obtain ⟨P, hP, _⟩ := sym_rows g c ids hi
  rcases dec_true g hc hi hl hP with ⟨_, h, _⟩ | ⟨_, h, _⟩
  · exact .inl h
  · exact .inr h

/-- with more symbols no less is known -/
theorem code_sub {B K : Int} {n k nb : Nat} (g : Good B K n k nb) {c : List UInt8} (hc : c.length = n) {ids js : List Nat} (hi : ∀ i ∈ ids, i ≤ 9999) (hj : ∀ i ∈ js, i ≤ 9999) (hl : ids.length ≤ 60) (hm : js.length ≤ 60) (hs : ∀ i ∈ ids, i ∈ js) (h0 : decCode B K (ids.map (symOf nb k c)) = 0) :
    decCode B K (js.map (symOf nb k c)) = 0 ∧ decRes B K (js.map (symOf nb k c)) = c := by
  obtain ⟨P, hP, hR, hS, hT, hA⟩ := sym_rows g c ids hi
  obtain ⟨Q, hQ, hR2, hS2, hT2, hA2⟩ := sym_rows g c js hj
  rcases dec_true g hc hi hl hP with ⟨_, h, _⟩ | ⟨hn, _, _⟩
  · rw [h0] at h; cases h
  · have hq := full_more hR hR2 hn fun v hv => (hS2 v).2 (((hS v).1 hv).mono fun x hx => by
      simp only [List.mem_map] at hx ⊢
      obtain ⟨r, ⟨i, hii, rfl⟩, rfl⟩ := hx
      exact ⟨_, ⟨i, hs i hii, rfl⟩, rfl⟩)
    rcases dec_true g hc hj hm hQ with ⟨h, _⟩ | ⟨_, h1, h2⟩
    · omega
    · exact ⟨h1, h2⟩

theorem code_same {B K : Int} {n k nb : Nat} (g : Good B K n k nb) {c : List UInt8} (hc : c.length = n) {ids js : List Nat} (hi : ∀ i ∈ ids, i ≤ 9999) (hj : ∀ i ∈ js, i ≤ 9999) (hl : ids.length ≤ 60) (hm : js.length ≤ 60) (hs : ∀ i, i ∈ ids ↔ i ∈ js) :
    decCode B K (js.map (symOf nb k c)) = decCode B K (ids.map (symOf nb k c)) := by
  rcases code_two g hc hi hl with h | h
  · rcases code_two g hc hj hm with h2 | h2
    · rw [h, h2]
    · rw [(code_sub g hc hj hi hm hl (fun i hh => (hs i).2 hh) h2).1] at h
      cases h
  · rw [h, (code_sub g hc hi hj hl hm (fun i hh => (hs i).1 hh) h).1]

end Go.Proofs.YtkiejflgphjfjacDoor

/-
  slices.Grow of nothing and slices.Concat at symbols: the contract of each.
-/
namespace Go.Proofs.YtkiejflgphjfjacDoor
open Go.RowKit
set_option linter.unusedVariables false
set_option linter.unusedSimpArgs false

/-- a list of symbols in memory -/
structure SBlk where
  a : Option Addr
  cap : Nat
  l : List MSym

def SBlk.val (b : SBlk) : Value := .slice b.a b.l.length b.cap

theorem zeroCells_size2 (x y : Value) (n : Nat) : (Builtin.zeroCells #[x, y] n).size = n * 2 := by simp [Builtin.zeroCells]

theorem own_slice2 {w : World} {B : Nat} {e : TypeId} {v : Value} {n : Nat} {xs : List Value} (h : w.ownsRow B e 2 v n xs) : ∃ a cap, v = .slice a n cap ∧ n ≤ cap := by
  rcases h.2 with ⟨rfl, h0⟩ | ⟨g, cap, cur, rfl, hb, hg, hnc, hcm, hcs, htake⟩
  · exact ⟨none, 0, by rw [h0], by omega⟩
  · exact ⟨_, _, rfl, hnc⟩

theorem own_none2 {w : World} {B : Nat} {e : TypeId} {n q : Nat} {xs : List Value} (h : w.ownsRow B e 2 (.slice none n q) n xs) : q = 0 := by
  rcases h.2 with ⟨e1, h0⟩ | ⟨g, cap, cur, e1, hb, hg, hnc, hcm, hcs, htake⟩
  · simp at e1
    exact e1.2
  · simp at e1

set_option maxRecDepth 8000 in
set_option maxHeartbeats 1000000 in
theorem growS_nil (s : Nat) (w : World) (hs : s ≤ 65536) :
    Calls Tryd.prog 43 #[.slice none 0 0, .int .i64 s] w fun e w' => ∃ v, e = .returned v ∧ w'.ownsRow w.heap.size 39 2 v 0 [] ∧ Below w.heap.size w w' := by
  obtain ⟨i0, hi, hz0, hz1, hz2⟩ := info_parts infoSym
  by_cases h0 : s = 0
  · subst h0
    go_enter Tryd.func43, Tryd.ntmps43
    go_wp2
    go_ret
    exact ⟨_, rfl, World.ownsRow_nil _ _ _ _, Below.refl _ _⟩
  · have h1 : 0 < s := by omega
    have h2 : (0 : Int) < (s : Int) := by omega
    clear h0
    have hrz : ∀ ty, (Builtin.append_ #[24, 3] ty #[.slice none 0 0, .int .i64 s]).run Tryd.prog w = .ok (.slice (some ⟨w.heap.size, 0, none⟩) s (grownCap w s 0 39)) (w.drew.alloc (.cells (Builtin.zeroCells #[.int .i64 0, .slice none 0 0] s ++ Builtin.zeroCells #[.int .i64 0, .slice none 0 0] (grownCap w s 0 39 - s)) 39)) := fun ty =>
      Lib.run_append_nil_zeros w 24 3 ty 39 i0 (.agg #[.int .i64 0, .slice none 0 0]) .i64 .i64 Tryd.underlying24 Tryd.underlying3 hi hz0 s h1 (by omega) (by omega) (by rw [hz2]; omega)
    have hGn : s ≤ grownCap w s 0 39 := grownCap_ge w _ _ _
    have hG63 := grownCap_le_maxLen w s 0 39 (by unfold maxLen; omega)
    have HR : Hid ((w.drew.alloc (.cells (Builtin.zeroCells #[.int .i64 0, .slice none 0 0] s ++ Builtin.zeroCells #[.int .i64 0, .slice none 0 0] (grownCap w s 0 39 - s)) 39)).ownsRow w.heap.size 39 2 (.slice (some ⟨w.heap.size, 0, none⟩) 0 (grownCap w s 0 39)) 0 []) :=
      ⟨rfl, .inr ⟨w.heap.size, _, _, rfl, Nat.le_refl _, (heap_alloc_eq w.drew _ _).trans (if_pos rfl), Nat.zero_le _, hG63, by simp [zeroCells_size2]; omega, rfl⟩⟩
    generalize grownCap w s 0 39 = G at *
    unfold maxLen at hG63
    have hG : (G : Int) ≤ 9223372036854775807 := by omega
    clear hG63
    go_enter Tryd.func43, Tryd.ntmps43
    go_wp2_with (at_builtin; refine Lib.wpList_append_run _ rfl _ _ _ _ rfl _ _ rfl rfl _ _ (hrz _) ?_)
    all_goals
      go_ret
      exact ⟨_, rfl, HR.out, (Below.refl _ _).drew.alloc (Nat.le_refl _) _⟩

/-- how many bytes the first m have -/
def totS (bl : List SBlk) (m : Nat) : Nat := (((bl.map SBlk.l).take m).flatten).length

theorem totS_succ {bl : List SBlk} {m : Nat} (h : m < bl.length) : totS bl (m + 1) = totS bl m + bl[m].l.length := by
  unfold totS
  rw [List.take_succ_eq_append_getElem (by simpa using h)]
  simp

theorem totS_le (bl : List SBlk) (m : Nat) : totS bl m ≤ ((bl.map SBlk.l).flatten).length := by
  unfold totS
  have h := congrArg (fun l => l.flatten.length) (List.take_append_drop m (bl.map SBlk.l))
  simp only [List.flatten_append, List.length_append] at h
  omega

theorem concatS_step {w wr w1 : World} {v v' : Value} {bl : List SBlk} {m : Nat} (hlt : m < bl.length) (hb : Below w.heap.size w wr) (ho : wr.ownsRow w.heap.size 39 2 v (totS bl m) (symCells ((bl.map SBlk.l).take m).flatten))
    (ho' : w1.ownsRow w.heap.size 39 2 v' (totS bl m + bl[m].l.length) (symCells ((bl.map SBlk.l).take m).flatten ++ symCells bl[m].l)) (hg : wr.grownBy w1 v.ownBlock) :
    w1.ownsRow w.heap.size 39 2 v' (totS bl (m + 1)) (symCells ((bl.map SBlk.l).take (m + 1)).flatten) ∧ Below w.heap.size w w1 := by
  refine ⟨?_, hb.grown hg hb.size fun g hg' => (ho.lt g hg').1⟩
  rw [totS_succ hlt, List.take_succ_eq_append_getElem (by simpa using hlt)]
  simpa [symCells] using ho'

theorem liesS_none {w : World} {l : List MSym} (h : Lies w none (symCells l)) : l = [] := by
  cases l with
  | nil => rfl
  | cons x r =>
    obtain ⟨_, _, e, _⟩ := h 0 _ (by simp [symCells]; rfl)
    simp at e

theorem liesS_add {w : World} {ad : Addr} {l : List MSym} (h : Lies w (some ad) (symCells l)) : ∀ j u, (symCells l)[j]? = some u → w.cell? (ad.add j) = some u := by
  intro j u hu
  obtain ⟨b, o, e, hc⟩ := h j u hu
  simp at e
  subst e
  simpa [Addr.add_lit] using hc

set_option maxRecDepth 8000 in
set_option maxHeartbeats 1000000 in
theorem concatS_any (a : Option Addr) (cap : Nat) (bl : List SBlk) (w : World) (hn : bl.length ≤ maxLen) (htot : ((bl.map SBlk.l).flatten).length ≤ 65536) (ha : Lies w a (bl.map SBlk.val)) (hall : ∀ b ∈ bl, Lies w b.a (symCells b.l)) :
    Calls Tryd.prog 19 #[.slice a bl.length cap] w fun e w' => ∃ v, e = .returned v ∧ w'.ownsRow w.heap.size 39 2 v ((bl.map SBlk.l).flatten).length (symCells (bl.map SBlk.l).flatten) ∧ Below w.heap.size w w' := by
  obtain ⟨i0, hi, hz0, hz1, hz2⟩ := info_parts infoSym
  have HT : Hid (((bl.map SBlk.l).flatten).length ≤ 65536) := htot
  unfold maxLen at hn
  clear htot
  go_enter Tryd.func19, Tryd.ntmps19
  go_wp2
  go_loop [3, 11] (fun c i => ∃ m : Nat, m ≤ bl.length ∧ i = .int .i64 m ∧ c = .int .i64 (totS bl m)) (fun _ i => bl.length - (intOf i).toNat)
  case atStart => exact ⟨0, Nat.zero_le _, rfl, rfl⟩
  case round =>
    obtain ⟨m, hm, rfl, rfl⟩ := hrel
    by_cases hlt : m < bl.length
    · obtain ⟨b1, o1, rfl⟩ := ha.some (k := m) (by simpa using hlt)
      have h1 : w.cell? ⟨b1, o1 + m, none⟩ = some (.slice bl[m].a bl[m].l.length bl[m].cap) := ha.at (by simp [hlt, SBlk.val])
      have hs := totS_succ hlt
      have hle := totS_le bl (m + 1)
      have := HT.out
      have hb1 : totS bl m ≤ 65536 := by omega
      have hb2 : bl[m].l.length ≤ 65536 := by omega
      have HS : Hid (totS bl (m + 1) = totS bl m + bl[m].l.length) := hs
      clear hs hle this
      go_wp2
      go_round
      case rel => exact ⟨m + 1, by omega, by go_num, congrArg (Value.int .i64) (by rw [HS.out]; simp)⟩
      case measure => simp [intOf]; omega
    · have HM : Hid (m = bl.length) := by have : m = bl.length := by omega
                                          exact this
      have hle := totS_le bl m
      have := HT.out
      have hb1 : totS bl m ≤ 65536 := by omega
      clear hle this
      go_wp2_with fail
      refine (growS_nil _ _ hb1).mono ?_
      rintro e w1 ⟨v1, rfl, ho1, hb⟩
      clear hb1
      go_wp2
      go_loopw [6, 27] (fun v i wr => ∃ m : Nat, m ≤ bl.length ∧ i = .int .i64 m ∧ wr.ownsRow w.heap.size 39 2 v (totS bl m) (symCells ((bl.map SBlk.l).take m).flatten) ∧ Below w.heap.size w wr) (fun _ i _ => bl.length - (intOf i).toNat)
      case atStart => exact ⟨0, Nat.zero_le _, rfl, ho1, hb⟩
      case round =>
        clear ho1 hb
        obtain ⟨m, hm, rfl, hown, hbw⟩ := hrel
        by_cases hlt : m < bl.length
        · obtain ⟨b1, o1, rfl⟩ := ha.some (k := m) (by simpa using hlt)
          have h1 : wr.cell? ⟨b1, o1 + m, none⟩ = some (.slice bl[m].a bl[m].l.length bl[m].cap) := (ha.below hbw (Nat.le_refl _)).at (by simp [hlt, SBlk.val])
          have hla := (hall bl[m] (by simp)).below hbw (Nat.le_refl _)
          have hsz := hbw.size
          have hs := totS_succ hlt
          have hle := totS_le bl (m + 1)
          have := HT.out
          have hb1 : totS bl m + bl[m].l.length ≤ 65536 := by omega
          have HS : Hid (totS bl (m + 1) = totS bl m + bl[m].l.length) := hs
          clear hs hle this
          cases had : bl[m].a with
          | none =>
            rw [had] at h1 hla
            have HE : Hid (bl[m].l = []) := liesS_none hla
            have h0 : bl[m].l.length = 0 := by rw [HE.out]; rfl
            rw [h0] at h1
            obtain ⟨p6, q6, rfl, hq6⟩ := own_slice2 hown
            have hq : p6 = none → q6 = 0 := fun e => by subst e; exact own_none2 hown
            have R : Hid (wr.ownsRow w.heap.size 39 2 (.slice p6 (totS bl m) q6) (totS bl (m + 1)) (symCells ((bl.map SBlk.l).take (m + 1)).flatten)) := by
              show wr.ownsRow w.heap.size 39 2 (.slice p6 (totS bl m) q6) (totS bl (m + 1)) (symCells ((bl.map SBlk.l).take (m + 1)).flatten)
              rw [HS.out, List.take_succ_eq_append_getElem (by simpa using hlt)]
              simpa [h0, HE.out] using hown
            clear had hla h0 hown hb1
            go_wp2_with (first | (at_builtin; refine Lib.wpList_append_run _ rfl _ _ _ _ rfl _ _ rfl rfl _ _ (run_append_nothing _ _ _ 39 i0 Tryd.underlying24 hi _ _ _ _ hq6) ?_) | go_in)
            go_roundw
            case rel => exact ⟨m + 1, by omega, by go_num, R.out, hbw⟩
            case measure => simp [intOf]; omega
          | some ad =>
            rw [had] at h1 hla
            clear had
            go_wp2_with (first | (at_builtin; refine wpList_append_own _ rfl _ _ 24 rfl w.heap.size 39 i0 (.agg #[.int .i64 0, .slice none 0 0]) 2 32 Tryd.underlying24 hi hz0 hz1 hz2 rfl (by decide) _ _ _ rfl hown ad bl[m].l.length bl[m].cap (symCells bl[m].l) rfl ?c0 ?c1 ?c2 ?c3 ?c4 ?c5 ?_) | go_in)
            case c0 => rw [symCells_length]; omega
            case c1 => exact liesS_add hla
            case c2 =>
              intro u hu
              obtain ⟨x, _, hx⟩ := List.mem_flatMap.1 hu
              simp at hx
              rcases hx with rfl | rfl <;> rfl
            case c3 => unfold maxLen; omega
            case c4 => omega
            case c5 => omega
            intro v' w1 hown' hgrow _
            have R := concatS_step hlt hbw hown hown' hgrow
            clear hown' hgrow hown hbw h1 hla
            go_wp2
            go_roundw
            case rel => exact ⟨m + 1, by omega, by go_num, R.1, R.2⟩
            case measure => simp [intOf]; omega
        · have HK : Hid (m = bl.length) := by have : m = bl.length := by omega
                                              exact this
          go_wp2
          go_ret
          refine ⟨_, rfl, ?_, hbw⟩
          have hk := HK.out
          subst hk
          unfold totS at hown
          rwa [List.take_of_length_le (by simp)] at hown

end Go.Proofs.YtkiejflgphjfjacDoor

/-
  slices.Clone at symbols: its contract.
-/
namespace Go.Proofs.YtkiejflgphjfjacDoor
open Go.RowKit
set_option linter.unusedVariables false
set_option linter.unusedSimpArgs false

theorem cloneS_own (b o cap k : Nat) (xs : List MSym) (w : World) (hx : xs.length = k) (hn : k ≤ 60) (ha : Lies w (some ⟨b, o, none⟩) (symCells xs)) :
    Calls Tryd.prog 17 #[.slice (some ⟨b, o, none⟩) k cap] w fun e w' => ∃ (p : Option Addr) (q : Nat), e = .returned (.slice p k q) ∧ Below w.heap.size w w' ∧ k ≤ q ∧ w'.ownsRow w.heap.size 39 2 (.slice p k q) k (symCells xs) := by
  subst hx
  obtain ⟨i0, hi, hz0, hz1, hz2⟩ := info_parts infoSym
  have hne : ∀ W : World, (binOp .eql 24 (.slice (some ⟨b, o, none⟩) xs.length cap) (.slice none 0 0)).run Tryd.prog W = .ok (.bool false) W := fun W => Lib.run_eql_slice_nil W 24 39 (some ⟨b, o, none⟩) xs.length cap 0 0 Tryd.underlying24
  go_enter Tryd.func17, Tryd.ntmps17
  have hown : (w.alloc (.cells #[] 39)).ownsRow w.heap.size 39 2 (.slice (some ⟨w.heap.size, 0, none⟩) 0 0) 0 [] :=
    ⟨rfl, .inr ⟨w.heap.size, 0, #[], rfl, Nat.le_refl _, by rw [heap_alloc_eq, if_pos rfl], Nat.le_refl _, by unfold maxLen; omega, rfl, rfl⟩⟩
  have hla := ha.alloc (.cells #[] 39)
  clear ha
  go_wp2_with (first | (at_builtin; refine wpList_append_own _ rfl _ _ 24 rfl w.heap.size 39 i0 (.agg #[.int .i64 0, .slice none 0 0]) 2 32 Tryd.underlying24 hi hz0 hz1 hz2 rfl (by decide) _ _ _ rfl hown ⟨b, o, none⟩ xs.length cap (symCells xs) rfl ?c0 ?c1 ?c2 ?c3 ?c4 ?c5 ?_) | go_in)
  case c0 => rw [symCells_length]; omega
  case c1 =>
    intro j u hj
    have := hla.at hj
    simpa [Addr.add_lit] using this
  case c2 =>
    intro v hv
    obtain ⟨x, _, hx⟩ := List.mem_flatMap.1 hv
    simp at hx
    rcases hx with rfl | rfl <;> rfl
  case c3 => unfold maxLen; omega
  case c4 => omega
  case c5 => simp
  intro v' w' hown' hgrow _
  have hb : Below w.heap.size w w' := ((Below.refl _ _).alloc (Nat.le_refl _) _).grown hgrow (by simp) fun g hg => (hown.lt g hg).1
  clear hgrow hown hla
  obtain ⟨p, q, hv, hpq⟩ := own_slice2 hown'
  subst hv
  have HO := Shut.mk hown'
  clear hown'
  go_wp2
  go_ret
  exact ⟨p, q, rfl, hb, hpq, by simpa using HO.out⟩

end Go.Proofs.YtkiejflgphjfjacDoor

/-
  slices.Reverse at symbols: its contract.
-/
namespace Go.Proofs.YtkiejflgphjfjacDoor
open Go.RowKit
set_option linter.unusedVariables false
set_option linter.unusedSimpArgs false

/-- the first k and the last k have changed places -/
def revF {α : Type} (n : Nat) (f : Nat → α) (k i : Nat) : α := if i < n ∧ (i < k ∨ n < i + 1 + k) then f (n - 1 - i) else f i

theorem revF_step {α : Type} {n k : Nat} {f : Nat → α} (h : k + 1 + k < n) (i : Nat) :
    (if i = n - 1 - k then f k else if i = k then f (n - 1 - k) else revF n f k i) = revF n f (k + 1) i := by
  unfold revF
  by_cases h1 : i = n - 1 - k
  · subst h1
    rw [if_pos rfl, if_pos (by omega)]
    congr 1
    omega
  · rw [if_neg h1]
    by_cases h2 : i = k
    · subst h2
      rw [if_pos rfl, if_pos (by omega)]
    · rw [if_neg h2]
      by_cases h3 : i < n ∧ (i < k ∨ n < i + 1 + k)
      · rw [if_pos h3, if_pos (by omega)]
      · rw [if_neg h3, if_neg (by omega)]

theorem revF_end {α : Type} {n k : Nat} {f : Nat → α} (h : ¬ k + 1 + k < n) {i : Nat} (h1 : i < n) : revF n f k i = f (n - 1 - i) := by
  unfold revF
  by_cases h2 : i < k ∨ n < i + 1 + k
  · rw [if_pos ⟨h1, h2⟩]
  · rw [if_neg (by omega)]
    congr 1
    omega

theorem cellSet {w : World} {g o o' : Nat} {v u : Value} (h : w.cell? ⟨g, o', none⟩ = some u) : (w.setCell ⟨g, o, none⟩ v).cell? ⟨g, o', none⟩ = some (if o' = o then v else u) := by
  by_cases e : o' = o
  · subst e
    rw [if_pos rfl]
    exact World.cell?_setCell_same _ _ _ h
  · rw [if_neg e, World.cell?_setCell_other _ _ _ _ (by intro h; injection h; omega)]
    exact h

/-- the symbols stand so, in a block of cells that may be written -/
def SymsAt (w : World) (g n : Nat) (f : Nat → MSym) : Prop := (∀ i, i < n → w.cell? ⟨g, i * 2, none⟩ = some (.int .i64 (f i).id) ∧ w.cell? ⟨g, i * 2 + 1, none⟩ = some (f i).dv) ∧ ∃ cur t, w.heap[g]? = some (.cells cur t (0, 0))

theorem SymsAt.swap {w : World} {g n k : Nat} {f : Nat → MSym} (h : SymsAt w g n (revF n f k)) (hk : k + 1 + k < n) :
    SymsAt ((((w.setCell ⟨g, k * 2, none⟩ (.int .i64 (f (n - 1 - k)).id)).setCell ⟨g, k * 2 + 1, none⟩ (f (n - 1 - k)).dv).setCell ⟨g, (n - 1 - k) * 2, none⟩ (.int .i64 (f k).id)).setCell ⟨g, (n - 1 - k) * 2 + 1, none⟩ (f k).dv) g n (revF n f (k + 1)) := by
  obtain ⟨h, cur, t, hb⟩ := h
  refine ⟨fun i hi => ?_, _, _, heap_set (heap_set (heap_set (heap_set hb)))⟩
  obtain ⟨c0, c1⟩ := h i hi
  have d0 := cellSet (o := (n - 1 - k) * 2 + 1) (v := (f k).dv) (cellSet (o := (n - 1 - k) * 2) (v := .int .i64 (f k).id) (cellSet (o := k * 2 + 1) (v := (f (n - 1 - k)).dv) (cellSet (o := k * 2) (v := .int .i64 (f (n - 1 - k)).id) c0)))
  have d1 := cellSet (o := (n - 1 - k) * 2 + 1) (v := (f k).dv) (cellSet (o := (n - 1 - k) * 2) (v := .int .i64 (f k).id) (cellSet (o := k * 2 + 1) (v := (f (n - 1 - k)).dv) (cellSet (o := k * 2) (v := .int .i64 (f (n - 1 - k)).id) c1)))
  rw [d0, d1, ← revF_step hk i]
  have a1 : ¬ i * 2 = (n - 1 - k) * 2 + 1 := by omega
  have a2 : ¬ i * 2 = k * 2 + 1 := by omega
  have a3 : ¬ i * 2 + 1 = (n - 1 - k) * 2 := by omega
  have a4 : ¬ i * 2 + 1 = k * 2 := by omega
  have b1 : (i * 2 = (n - 1 - k) * 2) = (i = n - 1 - k) := propext ⟨fun _ => by omega, fun _ => by omega⟩
  have b2 : (i * 2 = k * 2) = (i = k) := propext ⟨fun _ => by omega, fun _ => by omega⟩
  have b3 : (i * 2 + 1 = (n - 1 - k) * 2 + 1) = (i = n - 1 - k) := propext ⟨fun _ => by omega, fun _ => by omega⟩
  have b4 : (i * 2 + 1 = k * 2 + 1) = (i = k) := propext ⟨fun _ => by omega, fun _ => by omega⟩
  simp only [if_neg a1, if_neg a2, if_neg a3, if_neg a4, b1, b2, b3, b4]
  by_cases e1 : i = n - 1 - k
  · simp only [if_pos e1]
    exact ⟨trivial, trivial⟩
  · simp only [if_neg e1]
    by_cases e2 : i = k
    · simp only [if_pos e2]
      exact ⟨trivial, trivial⟩
    · simp only [if_neg e2]
      exact ⟨trivial, trivial⟩

theorem growD {a b : World} {row : Option Nat} (h : a.grownBy b row) : a.grownBy b.drew row := ⟨h.os, h.tape, h.output, h.size, h.block⟩

theorem grown4 {w0 w : World} {g : Nat} (h : w0.grownBy w (some g)) (o1 o2 o3 o4 : Nat) (v1 v2 v3 v4 : Value) : w0.grownBy ((((w.setCell ⟨g, o1, none⟩ v1).setCell ⟨g, o2, none⟩ v2).setCell ⟨g, o3, none⟩ v3).setCell ⟨g, o4, none⟩ v4) (some g) :=
  grown_trans (grown_trans (grown_trans (grown_trans h (grown_setCell _ g _ _)) (grown_setCell _ g _ _)) (grown_setCell _ g _ _)) (grown_setCell _ g _ _)

set_option maxHeartbeats 1000000 in
theorem reverseS_any (g n cap : Nat) (f : Nat → MSym) (w : World) (hn : n ≤ cap) (hc : n ≤ 60) (hr : SymsAt w g n f) :
    Calls Tryd.prog 18 #[.slice (some ⟨g, 0, none⟩) n cap] w fun e w' => e = .returned (.tuple #[]) ∧ SymsAt w' g n (fun i => f (n - 1 - i)) ∧ w.grownBy w' (some g) := by
  have H0 : Shut (SymsAt w g n (revF n f 0) ∧ w.grownBy w (some g)) := ⟨⟨fun i hi => by rw [show revF n f 0 i = f i by unfold revF; rw [if_neg (by omega)]]; exact hr.1 i hi, hr.2⟩, grown_refl _ _⟩
  clear hr
  go_enter Tryd.func18, Tryd.ntmps18
  go_wp2
  go_loopw [2, 3] (fun i j wr => ∃ k : Nat, k ≤ n ∧ i = .int .i64 k ∧ j = .int .i64 ((n : Int) - 1 - k) ∧ Shut (SymsAt wr g n (revF n f k) ∧ w.grownBy wr (some g))) (fun i _ _ => n - (intOf i).toNat)
  case atStart => exact ⟨0, Nat.zero_le _, rfl, by simp, H0⟩
  case round =>
    clear H0
    obtain ⟨k, hk, rfl, rfl, HI⟩ := hrel
    by_cases hlt : (k : Int) < (n : Int) - 1 - k
    · have hkn : k < n := by omega
      have hj : ((n : Int) - 1 - k).toNat = n - 1 - k := by omega
      have hj0 : (0 : Int) ≤ (n : Int) - 1 - k := by omega
      have hjn : (n : Int) - 1 - k < n := by omega
      obtain ⟨h1, h2⟩ := HI.out.1.1 k (by omega)
      obtain ⟨h3, h4⟩ := HI.out.1.1 (n - 1 - k) (by omega)
      rw [show revF n f k k = f k by unfold revF; rw [if_neg (by omega)]] at h1 h2
      rw [show revF n f k (n - 1 - k) = f (n - 1 - k) by unfold revF; rw [if_neg (by omega)]] at h3 h4
      obtain ⟨cur, t, hb⟩ := HI.out.1.2
      have f1 := frozen_blk hb (k * 2)
      have f2 := frozen_blk hb (k * 2 + 1)
      have f3 := frozen_blk hb ((n - 1 - k) * 2)
      have f4 := frozen_blk hb ((n - 1 - k) * 2 + 1)
      have R := Shut.mk (And.intro (HI.out.1.swap (by omega)) (grown4 HI.out.2 (k * 2) (k * 2 + 1) ((n - 1 - k) * 2) ((n - 1 - k) * 2 + 1) (.int .i64 (f (n - 1 - k)).id) (f (n - 1 - k)).dv (.int .i64 (f k).id) (f k).dv))
      clear HI hb
      simp only [MSym.dv] at h2 h4 R
      generalize (f k).id = i1 at *
      generalize (f k).a = a1 at *
      generalize (f k).d.length = n1 at *
      generalize (f k).c = c1 at *
      generalize (f (n - 1 - k)).id = i2 at *
      generalize (f (n - 1 - k)).a = a2 at *
      generalize (f (n - 1 - k)).d.length = n2 at *
      generalize (f (n - 1 - k)).c = c2 at *
      go_wp2
      go_region
      all_goals go_wp2
      all_goals go_roundw
      case rel => exact ⟨k + 1, by omega, by go_num, by go_num, ⟨R.out.1, growD R.out.2⟩⟩
      case measure => simp [intOf]; omega
    · have R : Shut (SymsAt wr g n (fun i => f (n - 1 - i)) ∧ w.grownBy wr (some g)) := ⟨⟨fun i hi => by have := HI.out.1.1 i hi; rw [revF_end (by omega) hi] at this; exact this, HI.out.1.2⟩, HI.out.2⟩
      clear HI
      go_wp2
      go_end0
      exact ⟨rfl, R.out⟩

end Go.Proofs.YtkiejflgphjfjacDoor

/-
  slices.Clone and slices.Reverse of any list of symbols, nil too: as SolveOrder calls them.
-/
namespace Go.Proofs.YtkiejflgphjfjacDoor
open Go.RowKit
set_option linter.unusedVariables false
set_option linter.unusedSimpArgs false

theorem cloneS_nil (c : Nat) (w : World) : Calls Tryd.prog 17 #[.slice none 0 c] w fun e w' => e = .returned (.slice none 0 0) ∧ w = w' := by
  have hne : ∀ W : World, (binOp .eql 24 (.slice none 0 c) (.slice none 0 0)).run Tryd.prog W = .ok (.bool true) W := fun W => Lib.run_eql_slice_nil W 24 39 none 0 c 0 0 Tryd.underlying24
  go_enter Tryd.func17, Tryd.ntmps17
  go_wp2
  go_ret
  exact ⟨rfl, rfl⟩

theorem cloneS_all (la : Option Addr) (lc k : Nat) (l : List MSym) (w : World) (hk : l.length = k) (hn : k ≤ 60) (hl : Lies w la (symCells l)) (hA : ∀ a, la = some a → ∃ b o, a = ⟨b, o, none⟩) :
    Calls Tryd.prog 17 #[.slice la k lc] w fun e w' => ∃ (p : Option Addr) (q : Nat), e = .returned (.slice p k q) ∧ Below w.heap.size w w' ∧ w'.ownsRow w.heap.size 39 2 (.slice p k q) k (symCells l) := by
  cases la with
  | none =>
    have h0 : l = [] := by
      cases l with
      | nil => rfl
      | cons y r => obtain ⟨b, o, e, _⟩ := hl 0 _ (show (symCells (y :: r))[0]? = some (.int .i64 y.id) from rfl); cases e
    subst h0
    subst hk
    refine (cloneS_nil lc w).mono ?_
    rintro e w' ⟨rfl, rfl⟩
    exact ⟨none, 0, rfl, Below.refl _ _, World.ownsRow_nil _ _ _ _⟩
  | some ad =>
    obtain ⟨b, o, rfl⟩ := hA _ rfl
    refine (cloneS_own b o lc k l w hk hn hl).mono ?_
    rintro e w' ⟨p, q, rfl, hb, _, ho⟩
    exact ⟨p, q, rfl, hb, ho⟩

theorem reverseS_nil (w : World) : Calls Tryd.prog 18 #[.slice none 0 0] w fun e w' => e = .returned (.tuple #[]) ∧ w = w' := by
  go_enter Tryd.func18, Tryd.ntmps18
  go_wp2
  go_loopw [2, 3] (fun i j wr => i = .int .i64 0 ∧ j = .int .i64 (-1) ∧ w = wr) (fun _ _ _ => 0)
  case atStart => exact ⟨rfl, rfl, rfl⟩
  case round =>
    obtain ⟨rfl, rfl, rfl⟩ := hrel
    go_wp2
    go_end0
    exact ⟨rfl, rfl⟩

theorem reverseS_own (p : Option Addr) (q k B : Nat) (l : List MSym) (w : World) (hk : l.length = k) (hn : k ≤ 60) (ho : w.ownsRow B 39 2 (.slice p k q) k (symCells l)) :
    Calls Tryd.prog 18 #[.slice p k q] w fun e w' => e = .returned (.tuple #[]) ∧ Lies w' p (symCells l.reverse) ∧ w.grownBy w' (Value.slice p k q).ownBlock := by
  rcases ho.2 with ⟨e1, h0⟩ | ⟨g, cap, cur, e1, hb, hg, hnc, hcm, hcs, htake⟩
  · cases e1
    have : l = [] := List.eq_nil_of_length_eq_zero hk
    subst this
    refine (reverseS_nil w).mono ?_
    rintro e w' ⟨rfl, rfl⟩
    exact ⟨rfl, Lies.nil _ _, grown_refl _ _⟩
  · cases e1
    have hl : Lies w (some ⟨g, 0, none⟩) (symCells l) := by
      obtain ⟨a, c, e, h, _⟩ := own_syms ho
      cases e
      exact h
    have hat : SymsAt w g k (fun i => (l[i]?).getD ⟨0, none, 0, []⟩) := ⟨fun i hi => by
      have := sym_at hl (j := i) (by omega)
      simp only [Nat.zero_add] at this
      show w.cell? _ = some (.int .i64 ((l[i]?).getD ⟨0, none, 0, []⟩).id) ∧ w.cell? _ = some ((l[i]?).getD ⟨0, none, 0, []⟩).dv
      rw [List.getElem?_eq_getElem (by omega)]
      exact this, _, _, hg⟩
    refine (reverseS_any g k q _ w hnc hn hat).mono ?_
    rintro e w' ⟨rfl, h1, h2⟩
    refine ⟨rfl, Lies.mk fun i hi => ?_, h2⟩
    rw [symCells_length, List.length_reverse] at hi
    have hi2 : i / 2 < l.reverse.length := by rw [List.length_reverse]; omega
    have hr : l.reverse[i / 2] = (l[k - 1 - i / 2]?).getD ⟨0, none, 0, []⟩ := by
      rw [List.getElem?_eq_getElem (by omega), List.getElem_reverse]
      simp [hk]
    obtain ⟨c0, c1⟩ := h1.1 (i / 2) (by omega)
    simp only [] at c0 c1
    obtain ⟨s0, s1⟩ := symCells_get hi2
    rw [Nat.zero_add]
    rcases Nat.mod_two_eq_zero_or_one i with hm | hm
    · have ei : i = 2 * (i / 2) := by omega
      have e2 := List.getElem?_eq_getElem (l := symCells l.reverse) (i := i) (by rw [symCells_length, List.length_reverse]; exact hi)
      rw [← e2]
      rw [show i / 2 * 2 = i by omega] at c0
      rw [c0, ← hr]
      rw [← ei] at s0
      rw [s0]
    · have ei : i = 2 * (i / 2) + 1 := by omega
      have e2 := List.getElem?_eq_getElem (l := symCells l.reverse) (i := i) (by rw [symCells_length, List.length_reverse]; exact hi)
      rw [← e2]
      rw [show i / 2 * 2 + 1 = i by omega] at c1
      rw [c1, ← hr]
      rw [← ei] at s1
      rw [s1]

end Go.Proofs.YtkiejflgphjfjacDoor
