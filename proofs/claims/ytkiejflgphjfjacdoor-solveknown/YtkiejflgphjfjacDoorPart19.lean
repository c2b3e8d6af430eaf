import Derived.Test.YtkiejflgphjfjacDoorPart18
import Derived.Test.YtkiejflgphjfjacDoorPart16
import Derived.Test.YtkiejflgphjfjacDoorPart1
import Derived.ProofKit
import Derived.OpenShut
import Derived.ShutString
import Derived.ChangeOld
import Derived.Below
import Derived.Carry
import Derived.SizedLaws
import Derived.Deep.Slices
/-
  slices.Grow of nothing and slices.Concat at numbers: the contract of each.
-/
namespace Go.Proofs.YtkiejflgphjfjacDoor
open Go.RowKit
set_option linter.unusedVariables false
set_option linter.unusedSimpArgs false

/-- a list of numbers in memory -/
structure IBlk where
  a : Option Addr
  cap : Nat
  l : List Int

def IBlk.val (b : IBlk) : Value := .slice b.a b.l.length b.cap
def is (l : List Int) : List Value := l.map (Value.int .i64)
theorem isl_length (l : List Int) : (is l).length = l.length := by simp [is]

set_option maxRecDepth 8000 in
set_option maxHeartbeats 1000000 in
theorem growI_nil (s : Nat) (w : World) (hs : s ≤ 65536) :
    Calls Tryd.prog 44 #[.slice none 0 0, .int .i64 s] w fun e w' => ∃ v, e = .returned v ∧ w'.ownsRow w.heap.size 3 1 v 0 [] ∧ Below w.heap.size w w' := by
  obtain ⟨i0, hi, hz0, hz1, hz2⟩ := info_parts infoI
  by_cases h0 : s = 0
  · subst h0
    go_enter Tryd.func44, Tryd.ntmps44
    go_wp2
    go_ret
    exact ⟨_, rfl, World.ownsRow_nil _ _ _ _, Below.refl _ _⟩
  · have h1 : 0 < s := by omega
    have h2 : (0 : Int) < (s : Int) := by omega
    clear h0
    have hrz : ∀ ty, (Builtin.append_ #[32, 3] ty #[.slice none 0 0, .int .i64 s]).run Tryd.prog w = .ok (.slice (some ⟨w.heap.size, 0, none⟩) s (grownCap w s 0 3)) (w.drew.alloc (.cells (Builtin.zeroCells #[.int .i64 0] s ++ Builtin.zeroCells #[.int .i64 0] (grownCap w s 0 3 - s)) 3)) := fun ty =>
      Lib.run_append_nil_zeros w 32 3 ty 3 i0 (.int .i64 0) .i64 .i64 Tryd.underlying32 Tryd.underlying3 hi hz0 s h1 (by omega) (by omega) (by rw [hz2]; omega)
    have hGn : s ≤ grownCap w s 0 3 := grownCap_ge w _ _ _
    have hG63 := grownCap_le_maxLen w s 0 3 (by unfold maxLen; omega)
    have HR : Hid ((w.drew.alloc (.cells (Builtin.zeroCells #[.int .i64 0] s ++ Builtin.zeroCells #[.int .i64 0] (grownCap w s 0 3 - s)) 3)).ownsRow w.heap.size 3 1 (.slice (some ⟨w.heap.size, 0, none⟩) 0 (grownCap w s 0 3)) 0 []) :=
      ⟨rfl, .inr ⟨w.heap.size, _, _, rfl, Nat.le_refl _, (heap_alloc_eq w.drew _ _).trans (if_pos rfl), Nat.zero_le _, hG63, by simp [zeroCells_size]; omega, rfl⟩⟩
    generalize grownCap w s 0 3 = G at *
    unfold maxLen at hG63
    have hG : (G : Int) ≤ 9223372036854775807 := by omega
    clear hG63
    go_enter Tryd.func44, Tryd.ntmps44
    go_wp2_with (at_builtin; refine Lib.wpList_append_run _ rfl _ _ _ _ rfl _ _ rfl rfl _ _ (hrz _) ?_)
    all_goals
      go_ret
      exact ⟨_, rfl, HR.out, (Below.refl _ _).drew.alloc (Nat.le_refl _) _⟩

/-- how many bytes the first m have -/
def totI (bl : List IBlk) (m : Nat) : Nat := (((bl.map IBlk.l).take m).flatten).length

theorem totI_succ {bl : List IBlk} {m : Nat} (h : m < bl.length) : totI bl (m + 1) = totI bl m + bl[m].l.length := by
  unfold totI
  rw [List.take_succ_eq_append_getElem (by simpa using h)]
  simp

theorem totI_le (bl : List IBlk) (m : Nat) : totI bl m ≤ ((bl.map IBlk.l).flatten).length := by
  unfold totI
  have h := congrArg (fun l => l.flatten.length) (List.take_append_drop m (bl.map IBlk.l))
  simp only [List.flatten_append, List.length_append] at h
  omega

theorem concatI_step {w wr w1 : World} {v v' : Value} {bl : List IBlk} {m : Nat} (hlt : m < bl.length) (hb : Below w.heap.size w wr) (ho : wr.ownsRow w.heap.size 3 1 v (totI bl m) (is ((bl.map IBlk.l).take m).flatten))
    (ho' : w1.ownsRow w.heap.size 3 1 v' (totI bl m + bl[m].l.length) (is ((bl.map IBlk.l).take m).flatten ++ is bl[m].l)) (hg : wr.grownBy w1 v.ownBlock) :
    w1.ownsRow w.heap.size 3 1 v' (totI bl (m + 1)) (is ((bl.map IBlk.l).take (m + 1)).flatten) ∧ Below w.heap.size w w1 := by
  refine ⟨?_, hb.grown hg hb.size fun g hg' => (ho.lt g hg').1⟩
  rw [totI_succ hlt, List.take_succ_eq_append_getElem (by simpa using hlt)]
  simpa [is] using ho'

theorem liesI_none {w : World} {l : List Int} (h : Lies w none (is l)) : l = [] := by
  cases l with
  | nil => rfl
  | cons x r =>
    obtain ⟨_, _, e, _⟩ := h 0 _ (by simp [is]; rfl)
    simp at e

theorem liesI_add {w : World} {ad : Addr} {l : List Int} (h : Lies w (some ad) (is l)) : ∀ j u, (is l)[j]? = some u → w.cell? (ad.add j) = some u := by
  intro j u hu
  obtain ⟨b, o, e, hc⟩ := h j u hu
  simp at e
  subst e
  simpa [Addr.add_lit] using hc

set_option maxRecDepth 8000 in
set_option maxHeartbeats 1000000 in
theorem concatI_any (a : Option Addr) (cap : Nat) (bl : List IBlk) (w : World) (hn : bl.length ≤ maxLen) (htot : ((bl.map IBlk.l).flatten).length ≤ 65536) (ha : Lies w a (bl.map IBlk.val)) (hall : ∀ b ∈ bl, Lies w b.a (is b.l)) :
    Calls Tryd.prog 21 #[.slice a bl.length cap] w fun e w' => ∃ v, e = .returned v ∧ w'.ownsRow w.heap.size 3 1 v ((bl.map IBlk.l).flatten).length (is (bl.map IBlk.l).flatten) ∧ Below w.heap.size w w' := by
  obtain ⟨i0, hi, hz0, hz1, hz2⟩ := info_parts infoI
  have HT : Hid (((bl.map IBlk.l).flatten).length ≤ 65536) := htot
  unfold maxLen at hn
  clear htot
  go_enter Tryd.func21, Tryd.ntmps21
  go_wp2
  go_loop [3, 11] (fun c i => ∃ m : Nat, m ≤ bl.length ∧ i = .int .i64 m ∧ c = .int .i64 (totI bl m)) (fun _ i => bl.length - (intOf i).toNat)
  case atStart => exact ⟨0, Nat.zero_le _, rfl, rfl⟩
  case round =>
    obtain ⟨m, hm, rfl, rfl⟩ := hrel
    by_cases hlt : m < bl.length
    · obtain ⟨b1, o1, rfl⟩ := ha.some (k := m) (by simpa using hlt)
      have h1 : w.cell? ⟨b1, o1 + m, none⟩ = some (.slice bl[m].a bl[m].l.length bl[m].cap) := ha.at (by simp [hlt, IBlk.val])
      have hs := totI_succ hlt
      have hle := totI_le bl (m + 1)
      have := HT.out
      have hb1 : totI bl m ≤ 65536 := by omega
      have hb2 : bl[m].l.length ≤ 65536 := by omega
      have HS : Hid (totI bl (m + 1) = totI bl m + bl[m].l.length) := hs
      clear hs hle this
      go_wp2
      go_round
      case rel => exact ⟨m + 1, by omega, by go_num, congrArg (Value.int .i64) (by rw [HS.out]; simp)⟩
      case measure => simp [intOf]; omega
    · have HM : Hid (m = bl.length) := by have : m = bl.length := by omega
                                          exact this
      have hle := totI_le bl m
      have := HT.out
      have hb1 : totI bl m ≤ 65536 := by omega
      clear hle this
      go_wp2_with fail
      refine (growI_nil _ _ hb1).mono ?_
      rintro e w1 ⟨v1, rfl, ho1, hb⟩
      clear hb1
      go_wp2
      go_loopw [6, 27] (fun v i wr => ∃ m : Nat, m ≤ bl.length ∧ i = .int .i64 m ∧ wr.ownsRow w.heap.size 3 1 v (totI bl m) (is ((bl.map IBlk.l).take m).flatten) ∧ Below w.heap.size w wr) (fun _ i _ => bl.length - (intOf i).toNat)
      case atStart => exact ⟨0, Nat.zero_le _, rfl, ho1, hb⟩
      case round =>
        clear ho1 hb
        obtain ⟨m, hm, rfl, hown, hbw⟩ := hrel
        by_cases hlt : m < bl.length
        · obtain ⟨b1, o1, rfl⟩ := ha.some (k := m) (by simpa using hlt)
          have h1 : wr.cell? ⟨b1, o1 + m, none⟩ = some (.slice bl[m].a bl[m].l.length bl[m].cap) := (ha.below hbw (Nat.le_refl _)).at (by simp [hlt, IBlk.val])
          have hla := (hall bl[m] (by simp)).below hbw (Nat.le_refl _)
          have hsz := hbw.size
          have hs := totI_succ hlt
          have hle := totI_le bl (m + 1)
          have := HT.out
          have hb1 : totI bl m + bl[m].l.length ≤ 65536 := by omega
          have HS : Hid (totI bl (m + 1) = totI bl m + bl[m].l.length) := hs
          clear hs hle this
          cases had : bl[m].a with
          | none =>
            rw [had] at h1 hla
            have HE : Hid (bl[m].l = []) := liesI_none hla
            have h0 : bl[m].l.length = 0 := by rw [HE.out]; rfl
            rw [h0] at h1
            obtain ⟨p6, q6, rfl, hq6⟩ := own_slice hown
            have hq : p6 = none → q6 = 0 := fun e => by subst e; exact own_none hown
            have R : Hid (wr.ownsRow w.heap.size 3 1 (.slice p6 (totI bl m) q6) (totI bl (m + 1)) (is ((bl.map IBlk.l).take (m + 1)).flatten)) := by
              show wr.ownsRow w.heap.size 3 1 (.slice p6 (totI bl m) q6) (totI bl (m + 1)) (is ((bl.map IBlk.l).take (m + 1)).flatten)
              rw [HS.out, List.take_succ_eq_append_getElem (by simpa using hlt)]
              simpa [h0, HE.out] using hown
            clear had hla h0 hown hb1
            go_wp2_with (first | (at_builtin; refine Lib.wpList_append_run _ rfl _ _ _ _ rfl _ _ rfl rfl _ _ (run_append_nothing _ _ _ 3 i0 Tryd.underlying32 hi _ _ _ _ hq6) ?_) | go_in)
            go_roundw
            case rel => exact ⟨m + 1, by omega, by go_num, R.out, hbw⟩
            case measure => simp [intOf]; omega
          | some ad =>
            rw [had] at h1 hla
            clear had
            go_wp2_with (first | (at_builtin; refine wpList_append_own _ rfl _ _ 32 rfl w.heap.size 3 i0 (.int .i64 0) 1 8 Tryd.underlying32 hi hz0 hz1 hz2 rfl (by decide) _ _ _ rfl hown ad bl[m].l.length bl[m].cap (is bl[m].l) rfl ?c0 ?c1 ?c2 ?c3 ?c4 ?c5 ?_) | go_in)
            case c0 => simp [isl_length]
            case c1 => exact liesI_add hla
            case c2 =>
              intro u hu
              obtain ⟨x, _, rfl⟩ := List.mem_map.1 hu
              rfl
            case c3 => unfold maxLen; omega
            case c4 => omega
            case c5 => omega
            intro v' w1 hown' hgrow _
            have R := concatI_step hlt hbw hown hown' hgrow
            clear hown' hgrow hown hbw h1 hla
            go_wp2
            go_roundw
            case rel => exact ⟨m + 1, by omega, by go_num, R.1, R.2⟩
            case measure => simp [intOf]; omega
        · have HK : Hid (m = bl.length) := by have : m = bl.length := by omega
                                              exact this
          go_wp2
          go_ret
          refine ⟨_, rfl, ?_, hbw⟩
          have hk := HK.out
          subst hk
          unfold totI at hown
          rwa [List.take_of_length_le (by simp)] at hown

end Go.Proofs.YtkiejflgphjfjacDoor

/-
  SolveKnown: the walk.
-/
namespace Go.Proofs.YtkiejflgphjfjacDoor
open Go.RowKit
set_option linter.unusedVariables false
set_option linter.unusedSimpArgs false

theorem grown_of_below {w w' : World} {row : Option Nat} (h : Below w.heap.size w w') : w.grownBy w' row := ⟨h.os, h.tape, h.output, h.size, fun k hk _ => h.block k hk⟩

/-- the cargo's blocks, in memory -/
def CutsOf (W : World) (nb k : Nat) (c : List UInt8) (ba : Option Addr) (bl : List Blk) : Prop :=
  Lies W ba (bl.map Blk.val) ∧ AllIn W bl ∧ bl.length = nb ∧ ∀ (j : Nat) (hj : j < bl.length), bl[j].l = piece k j c

theorem CutsOf.below {W W' : World} {nb k : Nat} {c : List UInt8} {ba : Option Addr} {bl : List Blk} (h : CutsOf W nb k c ba bl) (hb : Below W.heap.size W W') : CutsOf W' nb k c ba bl :=
  ⟨h.1.below hb (Nat.le_refl _), h.2.1.below hb, h.2.2⟩

theorem cut_blocks (n k nb : Nat) (a : Option Addr) (cap : Nat) (c : List UInt8) (w : World) (g : Good n k n k nb) (hl : c.length = n) (hcap : n ≤ cap) (ha : Lies w a (bs c)) :
    Calls Tryd.prog 22 #[.agg #[.int .i64 n, .int .i64 k], .slice a n cap] w fun e w' => ∃ (ba : Option Addr) (bl : List Blk), e = .returned (.tuple #[.slice ba nb nb, .int .i64 0]) ∧ Shut (CutsOf w' nb k c ba bl) ∧ Below w.heap.size w w' := by
  have n2 := g.n2
  have k2 := g.k2
  have h := cut_any n k a cap c w ⟨by omega, by omega⟩ ⟨by omega, by omega⟩ (by unfold maxLen; omega) (by omega) ha
  obtain ⟨e1, e2⟩ := cutCode_good g hl
  rw [e1, hl] at h
  refine h.mono ?_
  rintro e w' ⟨a', bl, rfl, h1, h2, _, h4, h5⟩
  rw [e2] at h4
  have hlen : bl.length = nb := by have := congrArg List.length h4; simpa [cutL] using this
  refine ⟨a', bl, by rw [hlen], ⟨h1, h2, hlen, fun j hj => ?_⟩, h5⟩
  have h6 : (bl.map Blk.l)[j]? = (cutL nb k c)[j]? := by rw [h4]
  simp [cutL, hj] at h6
  rw [List.getElem?_range (by omega)] at h6
  simpa using h6

theorem cutW_bad (B K : Int) (a : Option Addr) (cap : Nat) (c : List UInt8) (w : World) (q : Int) (hq : cutCode B K c = q) (h0 : q ≠ 0) (hB : I64 B) (hK : I64 K) (hm : c.length ≤ maxLen) (hcap : c.length ≤ cap) (ha : Lies w a (bs c)) :
    Calls Tryd.prog 22 #[.agg #[.int .i64 B, .int .i64 K], .slice a c.length cap] w fun e w' => ∃ (ba : Option Addr) (z : Nat), e = .returned (.tuple #[.slice ba z z, .int .i64 q]) ∧ Below w.heap.size w w' := by
  refine (cut_any B K a cap c w hB hK hm hcap ha).mono ?_
  rintro e w' ⟨a', bl, rfl, _, _, _, _, h5⟩
  exact ⟨a', bl.length, by rw [hq], h5⟩

/-- where there is no cargo -/
theorem knownW_out (B K : Int) (n : Nat) (a : Option Addr) (cap : Nat) (c : List UInt8) (s3 : Value) (q : Int) (w : World) (hq : cutCode B K c = q) (h0 : q ≠ 0) (hB : I64 B) (hK : I64 K) (hm : c.length ≤ maxLen) (hcap : c.length ≤ cap) (ha : Lies w a (bs c)) :
    Calls Tryd.prog 7 #[.agg #[.int .i64 B, .int .i64 K], .slice a c.length cap, s3] w fun e w' => e = .returned (.bool true) ∧ Below w.heap.size w w' := by
  have hBl : Below w.heap.size w (w.alloc (.cells #[.int .i64 B, .int .i64 K] 23)) := (Below.refl _ _).alloc (Nat.le_refl _) _
  obtain ⟨x0, x1⟩ := Box2.mk w (.int .i64 B) (.int .i64 K) 23
  have hC := cutW_bad B K a cap c (w.alloc (.cells #[.int .i64 B, .int .i64 K] 23)) q hq h0 hB hK hm hcap (ha.below hBl (Nat.le_refl _))
  have h0' : (q != 0) = true := by simpa using h0
  clear hq
  go_enter Tryd.func7, Tryd.ntmps7
  go_wp2_with fail
  refine hC.mono ?_
  rintro e w1 ⟨ba, z, rfl, hb1⟩
  replace hBl := hBl.trans (hb1.mono hBl.size)
  clear hb1 hC x0 x1
  go_wp2_with fail
  refine (solved_any _).mono ?_
  rintro e w2 ⟨rfl, hb2⟩
  replace hBl := hBl.trans (hb2.mono hBl.size)
  clear hb2
  go_wp2_with fail
  refine (solved_any _).mono ?_
  rintro e w3 ⟨rfl, hb3⟩
  replace hBl := hBl.trans (hb3.mono hBl.size)
  clear hb3
  go_wp2
  go_ret
  exact ⟨rfl, hBl⟩

/-- what is told of a row that is added, and where the new rows lie -/
theorem addS_new (n k m m' : Nat) (a : Option Addr) (c : Nat) (rows : List MRow) (A P : List LRow) (r : MRow) (bb : Bool) (w : World) (hl : Lies w a (rowCells rows)) (hall : ∀ x ∈ rows, RowIn w x) (hr : RowIn w r) (hmm : rows.length = m) (hAA : rows.map MRow.says = A) (hR : Right n k A) (hfr : Fits n k r.says) (hP : addL A r.says = some P) (hm' : P.length = m') (hbb : decide (P.length = A.length + 1) = bb) :
    Calls Tryd.prog 25 #[.agg #[.int .i64 n, .int .i64 k, .slice a m c], .agg #[r.hv, r.dv]] w fun e w' =>
      ∃ (a' : Option Addr) (c' : Nat) (rows' : List MRow), e = .returned (.tuple #[.agg #[.int .i64 n, .int .i64 k, .slice a' m' c'], .bool bb, .int .i64 0]) ∧ Shut (Lies w' a' (rowCells rows') ∧ (∀ r ∈ rows', RowIn w' r ∧ r.h.length ≤ r.hc) ∧ rows'.map MRow.says = P ∧ rows'.length = m' ∧ ∀ b o, a' = some ⟨b, o, none⟩ → w.heap.size ≤ b) ∧ Below w.heap.size w w' := by
  refine (addS_right n k m a c rows A r _ w hl hall hr hmm hAA rfl hR hfr).mono ?_
  rintro e w' ⟨hb1, ⟨h0, _⟩ | ⟨P', a', c', rows', h1, rfl, h3, h4, h5, h6⟩⟩
  · rw [hP] at h0; cases h0
  · rw [hP] at h1
    cases h1
    have hlen : rows'.length = m' := by rw [← hm', ← h5]; simp
    exact ⟨a', c', rows', by rw [hlen, hbb], ⟨h3, h4, h5, hlen, h6⟩, hb1⟩

/-- the state of the loop: the system in its box, the rows true -/
def KnSt (w w9 wr : World) (tb nb k am : Nat) (c : List UInt8) : Prop :=
  ∃ (a : Option Addr) (ac : Nat) (rows : List MRow) (A : List LRow), SysBox wr tb nb k a am ac rows A ∧ rows.length = am ∧ Right nb k A ∧ (∀ r ∈ A, Tr nb (blkAt k c) (LRow.v r)) ∧ w9.grownBy wr (some tb) ∧ Below w.heap.size w wr

/-- the symbols, off the box -/
def SymsOff (W : World) (tb nb k : Nat) (c : List UInt8) (la : Option Addr) (l : List MSym) (ids : List Nat) : Prop :=
  Lies W la (symCells l) ∧ (∀ y ∈ l, SymIn W y) ∧ l.length = ids.length ∧ l.map MSym.says = ids.map (symOf nb k c) ∧ (∀ b o, la = some ⟨b, o, none⟩ → b ≠ tb) ∧ ∀ y ∈ l, ∀ b o, y.a = some ⟨b, o, none⟩ → b ≠ tb

theorem SymsOff.grown {W W' : World} {tb nb k : Nat} {c : List UInt8} {la : Option Addr} {l : List MSym} {ids : List Nat} (h : SymsOff W tb nb k c la l ids) (hg : W.grownBy W' (some tb)) : SymsOff W' tb nb k c la l ids :=
  ⟨lies_grown hg h.1 h.2.2.2.2.1, fun y hy => ⟨lies_grown hg (h.2.1 y hy).1 (h.2.2.2.2.2 y hy), (h.2.1 y hy).2⟩, h.2.2⟩

set_option maxHeartbeats 4000000 in
set_option maxRecDepth 8000 in
theorem knownW_good (n k nb m : Nat) (a : Option Addr) (cap : Nat) (c : List UInt8) (ia : Option Addr) (ic : Nat) (xs : List Int) (w : World) (g : Good n k n k nb) (hl : c.length = n) (hcap : n ≤ cap) (ha : Lies w a (bs c)) (hi : Lies w ia (is xs)) (hix : ∀ x ∈ xs, I64 x) (hxm : xs.length = m) (hmm : m ≤ maxLen) (hic : m ≤ ic) (hic2 : ic ≤ maxLen) (hL : Laid w) :
    Calls Tryd.prog 7 #[.agg #[.int .i64 n, .int .i64 k], .slice a n cap, .slice ia m ic] w fun e w' => e = .returned (.bool true) ∧ Below w.heap.size w w' := by
  have n2 := g.n2
  have k1 := g.k1
  have k2 := g.k2
  have b1 := g.b1
  have b2 := g.b2
  have hB : I64 n := ⟨by omega, by omega⟩
  have hK : I64 k := ⟨by omega, by omega⟩
  have hR0 : Right nb k [] := ⟨g.b1, g.b2, g.k1, g.k2, (fun r hr => by cases hr), Sys.nil⟩
  have hBl : Below w.heap.size w (w.alloc (.cells #[.int .i64 n, .int .i64 k] 23)) := (Below.refl _ _).alloc (Nat.le_refl _) _
  have HB : Shut ((w.alloc (.cells #[.int .i64 n, .int .i64 k] 23)).heap[w.heap.size]? = some (.cells #[.int .i64 n, .int .i64 k] 23 (0, 0))) := ⟨by rw [heap_alloc_eq, if_pos rfl]⟩
  obtain ⟨x0, x1⟩ := cells2 HB.out
  have hNw : ∀ W, Calls Tryd.prog 23 #[.int .i64 nb, .int .i64 k] W fun e w' => e = .returned (.tuple #[.agg #[.int .i64 nb, .int .i64 k, .slice none 0 0], .int .i64 0]) ∧ Below W.heap.size W w' := fun W => by
    have hc : chkSys nb k [] = 0 := chk_of_right hR0
    have h := new_any nb k W (.agg #[.int .i64 nb, .int .i64 k, .slice none 0 0]) (by rw [if_pos hc])
    rw [hc] at h
    exact h
  have hS : ∀ (W : World) (tb : Nat), Below w.heap.size w W → tb < W.heap.size → Calls Tryd.prog 14 #[.agg #[.int .i64 n, .int .i64 k], .slice a n cap, .slice ia m ic] W fun e w' =>
      ∃ (la : Option Addr) (lc : Nat) (l : List MSym), e = .returned (.slice la (idsOf xs).length lc) ∧ Shut (SymsOff w' tb nb k c la l (idsOf xs)) ∧ Below W.heap.size W w' := fun W tb hW htb => by
    refine (symbols_good n k n k nb a cap c ia ic m xs W g hB hK hl hcap (ha.below hW (Nat.le_refl _)) (hi.below hW (Nat.le_refl _)) hix hxm hmm hic hic2 (hL.below hW)).mono ?_
    rintro e w' ⟨v, rfl, l, ho, hmp, hall, hb⟩
    obtain ⟨la, lc, rfl, hla, hml, _, hoff⟩ := own_syms ho
    exact ⟨la, lc, l, rfl, ⟨hla, fun y hy => (hall y hy).1, hml.symm, hmp, fun b o e => by have := (hoff b o e).1; omega, fun y hy b o e => by have := ((hall y hy).2 b o e).1; omega⟩, hb⟩
  have hCt := cut_blocks n k nb a cap c _ g hl hcap (ha.below hBl (Nat.le_refl _))
  obtain ⟨sm, hsm⟩ : ∃ sm, (idsOf xs).length = sm := ⟨_, rfl⟩
  have h60 : sm ≤ 60 := by rw [← hsm, idsOf_length]; omega
  have HX := Shut.mk (And.intro hL hsm)
  rw [hsm] at hS
  clear hl hcap ha hi hix hxm hmm hic hic2 hL hsm
  go_enter Tryd.func7, Tryd.ntmps7
  go_wp2_with fail
  refine hCt.mono ?_
  rintro e w1 ⟨ba, bl, rfl, HC, hb1⟩
  replace HB := Shut.mk (blk_below HB.out hb1)
  replace hBl := hBl.trans (hb1.mono hBl.size)
  clear hb1 hCt x0 x1
  go_wp2_with fail
  refine (solved_any _).mono ?_
  rintro e w2 ⟨rfl, hb2⟩
  replace HC := Shut.mk (HC.out.below hb2)
  replace HB := Shut.mk (blk_below HB.out hb2)
  replace hBl := hBl.trans (hb2.mono hBl.size)
  clear hb2
  obtain ⟨x0, x1⟩ := cells2 HB.out
  go_wp2_with fail
  refine (hNw _).mono ?_
  rintro e w3 ⟨rfl, hb3⟩
  clear hNw x0 x1
  replace HC := Shut.mk (HC.out.below hb3)
  replace HB := Shut.mk (blk_below HB.out hb3)
  replace hBl := hBl.trans (hb3.mono hBl.size)
  clear hb3
  have bd : Below w3.heap.size w3 (w3.alloc (.cells #[.int .i64 nb, .int .i64 k, .slice none 0 0] 53)) := (Below.refl _ _).alloc (Nat.le_refl _) _
  have hT : (w3.alloc (.cells #[.int .i64 nb, .int .i64 k, .slice none 0 0] 53)).heap[w3.heap.size]? = some (.cells #[.int .i64 nb, .int .i64 k, .slice none 0 0] 53 (0, 0)) := by rw [heap_alloc_eq, if_pos rfl]
  go_upto_region 8 with fail
  obtain ⟨W4, hW4⟩ : ∃ W4, w3.alloc (.cells #[.int .i64 nb, .int .i64 k, .slice none 0 0] 53) = W4 := ⟨_, rfl⟩
  obtain ⟨tb, htb⟩ : ∃ tb, w3.heap.size = tb := ⟨_, rfl⟩
  rw [hW4] at bd hT ⊢
  rw [htb] at hT ⊢
  have hbw := hBl.trans (bd.mono hBl.size)
  have HTB : Shut (w.heap.size < tb ∧ tb < W4.heap.size) := ⟨by rw [← htb]; exact blk_lt HB.out, blk_lt hT⟩
  replace HB := Shut.mk (blk_below HB.out bd)
  obtain ⟨x0, x1⟩ := cells2 HB.out
  have hSy := hS W4 tb hbw HTB.out.2
  have H3 := Shut.mk (And.intro bd htb)
  have HT := Shut.mk hT
  clear hS hW4 htb bd hT
  go_wp2_with fail
  refine hSy.mono ?_
  rintro e w9 ⟨la, lc, l, rfl, HS, hb9⟩
  have H0 : Shut (KnSt w w9 w9 tb nb k 0 c) := ⟨none, 0, [], [], ⟨blk_below HT.out hb9, Lies.nil _ _, (fun r hr => by cases hr), rfl⟩, rfl, hR0, (fun r hr => by cases hr), grown_refl _ _, hbw.trans (hb9.mono hbw.size)⟩
  have HC9 : Shut (CutsOf w9 nb k c ba bl ∧ (∀ b o, ba = some ⟨b, o, none⟩ → b ≠ tb) ∧ ∀ x ∈ bl, ∀ b o, x.a = some ⟨b, o, none⟩ → b ≠ tb) := ⟨by
    have h39 := H3.out.1.trans (hb9.mono H3.out.1.size)
    refine ⟨HC.out.below h39, fun b o e => ?_, fun x hx b o e => ?_⟩
    · have := lies_lt HC.out.1 (by simp [HC.out.2.2.1]; omega) b o e
      have := H3.out.2
      omega
    · obtain ⟨j, hj, rfl⟩ := List.getElem_of_mem hx
      have := lies_lt (HC.out.2.1 _ hx).1 (by simp [bs, HC.out.2.2.2 j hj, piece_length]; omega) b o e
      have := H3.out.2
      omega⟩
  clear hSy hb9 x0 x1 HC HT H3 HB hbw hBl
  obtain ⟨cb, co, hba⟩ := HC9.out.1.1.some (k := 0) (by simp [HC9.out.1.2.2.1]; omega)
  subst hba
  go_wp2
  go_loopw [10, 49] (fun v i wr => ∃ q am : Nat, q ≤ sm ∧ am ≤ nb ∧ i = .int .i64 q ∧ v = .int .i64 am ∧ Shut (KnSt w w9 wr tb nb k am c)) (fun _ i _ => sm - (intOf i).toNat)
  case atStart => exact ⟨0, 0, Nat.zero_le _, Nat.zero_le _, rfl, rfl, H0⟩
  case round =>
    clear H0
    obtain ⟨q, am, hq, ham, rfl, rfl, HI⟩ := hrel
    by_cases hlt : q < sm
    · obtain ⟨sa, sc, rows, A, hSB, hrl, hR, hTr, hgr, hbw⟩ := HI.out
      have hSO := HS.out.grown hgr
      have hql : q < l.length := by rw [hSO.2.2.1, HX.out.2]; exact hlt
      obtain ⟨lb, lo, hla⟩ := hSO.1.some (k := 2 * q) (by rw [symCells_length]; omega)
      obtain ⟨i, hid, hdd⟩ := sym_of hSO.2.2.2.1 hql
      have hi9 : i ≤ 9999 := by
        have h2 : (l.map MSym.says)[q]? = ((idsOf xs).map (symOf nb k c))[q]? := by rw [hSO.2.2.2.1]
        rw [List.getElem?_map, List.getElem?_map, List.getElem?_eq_getElem hql, List.getElem?_eq_getElem (by rw [HX.out.2]; exact hlt)] at h2
        simp [MSym.says, symOf] at h2
        have := idsOf_le xs _ (List.getElem_mem (h := by rw [HX.out.2]; exact hlt) : (idsOf xs)[q]'(by rw [HX.out.2]; exact hlt) ∈ idsOf xs)
        omega
      have hY := hSO.2.1 _ (List.getElem_mem hql)
      have hlw := hSO.1
      rw [hla] at hlw
      obtain ⟨a0, a1⟩ := sym_at hlw hql
      rw [hid] at a0
      have hdl : l[q].d.length = k := by rw [hdd, symL_length]
      simp only [MSym.dv, hdl] at a1
      have HY := Shut.mk (And.intro hY (And.intro hdd hi9))
      generalize l[q]'hql = Y at *
      obtain ⟨yid, ya, yc, yd⟩ := Y
      simp only at *
      subst hid
      subst hdd
      have bd : Below wr.heap.size wr (wr.alloc (.cells #[.int .i64 i, .slice ya k yc] 39)) := (Below.refl _ _).alloc (Nat.le_refl _) _
      have hYB : (wr.alloc (.cells #[.int .i64 i, .slice ya k yc] 39)).heap[wr.heap.size]? = some (.cells #[.int .i64 i, .slice ya k yc] 39 (0, 0)) := by rw [heap_alloc_eq, if_pos rfl]
      obtain ⟨P, hP, hPT⟩ := addL_true hR hTr (symRow_fits nb k c i) (symRow_true (k := k) (c := c) (i := i) b1 b2)
      obtain ⟨m', hm'⟩ : ∃ m', P.length = m' := ⟨_, rfl⟩
      obtain ⟨bb, hbb⟩ : ∃ bb, decide (P.length = A.length + 1) = bb := ⟨_, rfl⟩
      have hRP := (addL_right hR (symRow_fits nb k c i) hP).1
      have hm24 : m' ≤ nb := by rw [← hm']; exact hRP.few
      have hAl : A.length = am := by rw [← hrl, ← hSB.2.2.2]; simp
      have hlen := addL_len hP
      rw [hm', hAl] at hlen hbb
      have hmv : (bb = true → m' = am + 1) ∧ (bb = false → m' = am) := by
        refine ⟨fun e => ?_, fun e => ?_⟩
        · rw [e] at hbb; exact of_decide_eq_true hbb
        · rw [e] at hbb
          have := of_decide_eq_false hbb
          omega
      go_upto_region 11 with fail
      obtain ⟨W5, hW5⟩ : ∃ W5, wr.alloc (.cells #[.int .i64 i, .slice ya k yc] 39) = W5 := ⟨_, rfl⟩
      obtain ⟨sb, hsb⟩ : ∃ sb, wr.heap.size = sb := ⟨_, rfl⟩
      rw [hW5] at bd hYB ⊢
      rw [hsb] at hYB ⊢
      have hSB5 := hSB.below bd
      have hY5 := hY.below bd
      have hg5 : w9.grownBy W5 (some tb) := grown_trans hgr (grown_of_below bd)
      have hb5 := hbw.trans (bd.mono hbw.size)
      obtain ⟨y0, y1⟩ := cells2 hYB
      have hO := of_any i nb W5 hi9 b1 b2 (HX.out.1.below hb5)
      have HST := Shut.mk (And.intro hSB5 (And.intro hrl (And.intro hR (And.intro hYB (And.intro hY5 (And.intro hg5 hb5))))))
      have HP := Shut.mk (And.intro hP (And.intro hPT (And.intro hRP (And.intro hm' hbb))))
      have HMV := Shut.mk hmv
      clear hSB hrl hR hYB hY hSB5 hY5 hg5 hb5 hP hPT hRP hm' hbb hmv hlen hW5 hsb bd hgr hbw hSO hlw hTr HI a0 a1 HY hla hdl hAl hql hi9
      go_wp2_with fail
      refine hO.mono ?_
      rintro e w6 ⟨g6, rfl, _, hr6, hb6⟩
      have hlm := mask_lies hr6
      replace HST := Shut.mk (And.intro (HST.out.1.below hb6) (And.intro HST.out.2.1 (And.intro HST.out.2.2.1 (And.intro (blk_below HST.out.2.2.2.1 hb6) (And.intro (HST.out.2.2.2.2.1.below hb6) (And.intro (grown_trans HST.out.2.2.2.2.2.1 (grown_of_below hb6)) (HST.out.2.2.2.2.2.2.trans (hb6.mono HST.out.2.2.2.2.2.2.size))))))))
      clear hO hr6 hb6 y0 y1
      obtain ⟨y0, y1⟩ := cells2 HST.out.2.2.2.1
      obtain ⟨s0, s1, s2, _⟩ := HST.out.1.cells
      have hA := addS_new nb k am m' sa sc rows A P ⟨some ⟨g6, 0, none⟩, nb, maskL nb i, ya, yc, symL nb k c i⟩ bb w6 HST.out.1.2.1 (fun x hx => (HST.out.1.2.2.1 x hx).1) ⟨hlm, HST.out.2.2.2.2.1.1, by simp only [maskL_length]; unfold maxLen; omega, by simp only [symL_length]; unfold maxLen; omega⟩ HST.out.2.1 HST.out.1.2.2.2 HST.out.2.2.1 (symRow_fits nb k c i) HP.out.1 HP.out.2.2.2.1 (by rw [HP.out.2.2.2.1, show A.length = am by rw [← HST.out.2.1, ← HST.out.1.2.2.2]; simp]; exact HP.out.2.2.2.2)
      simp only [MRow.hv, MRow.dv, maskL_length, symL_length] at hA
      clear hlm
      go_wp2_with fail
      refine hA.mono ?_
      rintro e w7 ⟨a7, c7, rows7, rfl, HR7, hb7⟩
      have bd : Below w7.heap.size w7 (w7.alloc (.cells #[.int .i64 nb, .int .i64 k, .slice a7 m' c7] 53)) := (Below.refl _ _).alloc (Nat.le_refl _) _
      have hb8 := hb7.trans (bd.mono hb7.size)
      have hZ : (w7.alloc (.cells #[.int .i64 nb, .int .i64 k, .slice a7 m' c7] 53)).heap[w7.heap.size]? = some (.cells #[.int .i64 nb, .int .i64 k, .slice a7 m' c7] 53 (0, 0)) := by rw [heap_alloc_eq, if_pos rfl]
      clear hA s0 s1 s2 y0 y1
      go_upto_region 15 with fail
      obtain ⟨W8, hW8⟩ : ∃ W8, w7.alloc (.cells #[.int .i64 nb, .int .i64 k, .slice a7 m' c7] 53) = W8 := ⟨_, rfl⟩
      obtain ⟨zb, hzb⟩ : ∃ zb, w7.heap.size = zb := ⟨_, rfl⟩
      rw [hW8] at bd hb8 hZ ⊢
      rw [hzb] at hZ ⊢
      have hSB8 := HST.out.1.below hb8
      have htl := blk_lt HST.out.1.1
      have hg8 := grown_trans HST.out.2.2.2.2.2.1 (grown_of_below hb8)
      have hbw8 := HST.out.2.2.2.2.2.2.trans (hb8.mono HST.out.2.2.2.2.2.2.size)
      have hne : ∀ b o, a7 = some ⟨b, o, none⟩ → b ≠ tb := fun b o e => by have := HR7.out.2.2.2.2 b o e; omega
      have hput := hSB8.put (m' := m') (c' := c7) (HR7.out.1.below bd (Nat.le_refl _)) (fun r hr => ⟨(HR7.out.2.1 r hr).1.below bd, (HR7.out.2.1 r hr).2⟩) HR7.out.2.2.1 hne HP.out.2.2.1
      have hgp := grown_trans hg8 (grown_trans (grown_trans (grown_setCell W8 tb 0 (.int .i64 nb)) (grown_setCell _ tb 1 (.int .i64 k))) (grown_setCell _ tb 2 (.slice a7 m' c7)))
      have htw := Nat.le_of_lt HTB.out.1
      have hbp := ((hbw8.setCell (p := ⟨tb, 0, none⟩) (by simpa using htw) (.int .i64 nb)).setCell (p := ⟨tb, 1, none⟩) (by simpa using htw) (.int .i64 k)).setCell (p := ⟨tb, 2, none⟩) (by simpa using htw) (.slice a7 m' c7)
      obtain ⟨t0, t1, t2, tf⟩ := hSB8.cells
      have f0 := tf 0
      have f1 := tf 1
      have f2 := tf 2
      obtain ⟨z0, z1, z2⟩ := cells3 hZ
      have HPUT := Shut.mk (And.intro hput (And.intro HR7.out.2.2.2.1 (And.intro hgp hbp)))
      clear hput hgp hbp tf hne hg8 hbw8 hSB8 hb8 bd hW8 hzb hZ htl htw hb7 HR7 HST
      go_upto_region 16 with fail
      obtain ⟨W9, hW9⟩ : ∃ W9, ((W8.setCell ⟨tb, 0, none⟩ (.int .i64 nb)).setCell ⟨tb, 1, none⟩ (.int .i64 k)).setCell ⟨tb, 2, none⟩ (.slice a7 m' c7) = W9 := ⟨_, rfl⟩
      rw [hW9] at HPUT ⊢
      clear hW9 t0 t1 t2 f0 f1 f2 z0 z1 z2
      have hKn := knownS_right nb k m' a7 c7 rows7 P W9 HPUT.out.1.2.1 (fun r hr => (HPUT.out.1.2.2.1 r hr).1) (fun r hr => (HPUT.out.1.2.2.1 r hr).2) HPUT.out.2.1 HPUT.out.1.2.2.2 HP.out.2.2.1
      obtain ⟨t0, t1, t2, _⟩ := HPUT.out.1.cells
      cases bb
      case' true =>
        go_upto_region 18 with fail
        have hvi : (am : Int) + 1 = (m' : Int) := by have := HMV.out.1 rfl; omega
        rw [hvi]
        clear hvi
      case' false =>
        obtain rfl : m' = am := HMV.out.2 rfl
        go_upto_region 18 with fail
      all_goals
        clear HMV
        go_wp2_with fail
        refine hKn.mono ?_
        rintro e wA ⟨gA, blA, rfl, hlA, hinA, hcA, hkA, hbA⟩
        replace HPUT := Shut.mk (And.intro (HPUT.out.1.below hbA) (And.intro HPUT.out.2.1 (And.intro (grown_trans HPUT.out.2.2.1 (grown_of_below hbA)) (HPUT.out.2.2.2.trans (hbA.mono HPUT.out.2.2.2.size)))))
        clear t0 t1 t2 hKn
        obtain ⟨t0, t1, t2, _⟩ := HPUT.out.1.cells
        have hmn : ¬ nb < m' := by omega
        have hmi : ¬ (nb : Int) < (m' : Int) := by omega
        have hCA : CutsOf wA nb k c (some ⟨cb, co, none⟩) bl := ⟨lies_grown HPUT.out.2.2.1 HC9.out.1.1 HC9.out.2.1, fun x hx => ⟨lies_grown HPUT.out.2.2.1 (HC9.out.1.2.1 x hx).1 (HC9.out.2.2 x hx), (HC9.out.1.2.1 x hx).2⟩, HC9.out.1.2.2⟩
        have HKA : Shut (CutsOf wA nb k c (some ⟨cb, co, none⟩) bl ∧ blA.length = nb ∧ Lies wA (some ⟨gA, 0, none⟩) (blA.map Blk.val) ∧ AllIn wA blA ∧ (∀ b ∈ blA, b.l = [] → b = nilB) ∧ ∀ j (hj : j < blA.length), blA[j].l = [] ∨ blA[j].l = piece k j c) := ⟨by
          have e1 : blA.length = nb := by have := congrArg List.length hkA; rw [knownL_length] at this; simpa using this
          refine ⟨hCA, e1, hlA, hinA, fun b hb => (hcA b hb).2, ?_⟩
          intro j hj
          have e2 : (blA.map Blk.l)[j]? = (knownL nb P)[j]? := by rw [hkA]
          rw [List.getElem?_map, List.getElem?_eq_getElem hj] at e2
          rcases known_true HP.out.2.2.1 HP.out.2.1 (j := j) (by omega) with h | ⟨d, h, hd, hv⟩
          · rw [h] at e2; exact .inl (by simpa using e2)
          · rw [h] at e2
            have e3 : blA[j].l = d := by simpa using e2
            refine .inr (e3.trans (List.ext_getElem (by rw [hd, piece_length]) fun t h1 h2 => ?_))
            have := hv t
            rw [blkAt, List.getD_eq_getElem?_getD, List.getD_eq_getElem?_getD, List.getElem?_eq_getElem h1, List.getElem?_eq_getElem h2] at this
            simpa using this⟩
        clear hlA hinA hcA hkA hbA hCA
        go_wp2
        obtain ⟨W0, rfl⟩ : ∃ W0, W0 = wr := ⟨wr, rfl⟩
        go_loopw [103] (fun v wr => ∃ j : Nat, j ≤ nb ∧ v = .int .i64 j ∧ Below wA.heap.size wA wr) (fun v _ => nb - (intOf v).toNat)
        case atStart => exact ⟨0, Nat.zero_le _, rfl, Below.refl _ _⟩
        case round =>
          obtain ⟨j, hj, rfl, hbr⟩ := hrel
          by_cases hlj : j < nb
          · obtain ⟨hC, e1, l1, i1, hn, hv⟩ := HKA.out
            have hq1 : j < blA.length := by omega
            have hq2 : j < bl.length := by rw [hC.2.2.1]; exact hlj
            have c1 := (l1.below hbr (Nat.le_refl _)).at (k := j) (u := blA[j].val) (by simp [hq1])
            have c2 := (hC.1.below hbr (Nat.le_refl _)).at (k := j) (u := bl[j].val) (by simp [hq2])
            simp only [Nat.zero_add] at c1 c2
            have v1 := i1.below hbr blA[j] (List.getElem_mem hq1)
            have v2 := hC.2.1.below hbr bl[j] (List.getElem_mem hq2)
            have hx : blA[j].l = [] ∨ blA[j].l = bl[j].l := by rw [hC.2.2.2 j hq2]; exact hv j hq1
            have hnq := hn blA[j] (List.getElem_mem hq1)
            clear e1 l1 i1 hn hv hC
            generalize blA[j]'hq1 = X at *
            generalize bl[j]'hq2 = Y at *
            by_cases hX : X.l = []
            · have hXn := hnq hX
              subst hXn
              simp only [Blk.val, nilB, List.length_nil] at c1
              clear hX hnq hx v1 v2 c2 hq1 hq2
              have hne := run_neq_slice_nil_any (P := Tryd.prog) wr 36 5 none 0 0 0 0 Tryd.underlying36
              go_wp2
              go_roundw
              case rel => exact ⟨j + 1, by omega, by go_num, hbr⟩
              case measure => simp [intOf]; omega
            · have hXY : X.l = Y.l := by
                rcases hx with h | h
                · exact absurd h hX
                · exact h
              have hXp : 0 < X.l.length := List.length_pos_iff.2 hX
              obtain ⟨xb, xo, hxa⟩ := v1.1.some (k := 0) (by simpa [bs] using hXp)
              have hE := equalBlock (w := wr) X.a Y.a X.cap Y.cap X.l Y.l v1.2 v2.2 v1.1 v2.1
              rw [decide_eq_true hXY] at hE
              simp only [Blk.val] at c1 c2
              obtain ⟨Xa, Xc, Xl⟩ := X
              obtain ⟨Ya, Yc, Yl⟩ := Y
              simp only at *
              subst hxa
              clear hX hnq hx hXY v1 v2 hq1 hq2 hXp
              have hne := run_neq_slice_nil_any (P := Tryd.prog) wr 36 5 (some ⟨xb, xo, none⟩) Xl.length Xc 0 0 Tryd.underlying36
              go_wp2_with fail
              refine hE.mono ?_
              rintro e w11 ⟨rfl, n11, rfl⟩
              replace hbr := hbr.trans ((bdn wr n11 _).mono hbr.size)
              clear hE c1 c2 hne
              generalize wr.drewN n11 = w12 at *
              go_wp2
              go_roundw
              case rel => exact ⟨j + 1, by omega, by go_num, hbr⟩
              case measure => simp [intOf]; omega
          · clear HKA
            have R : Shut (KnSt w w9 wr tb nb k m' c) := ⟨_, _, _, _, HPUT.out.1.below hbr, HPUT.out.2.1, HP.out.2.2.1, HP.out.2.1, grown_trans HPUT.out.2.2.1 (grown_of_below hbr), HPUT.out.2.2.2.trans (hbr.mono HPUT.out.2.2.2.size)⟩
            go_wp2
            refine ⟨⟨q + 1, m', by omega, hm24, by go_num, rfl, R⟩, by simp [intOf]; omega⟩
    · obtain ⟨sa, sc, rows, A, hSB, hrl, hR, hTr, hgr, hbw⟩ := HI.out
      clear HI hSB hR hTr hgr
      go_wp2
      go_ret
      exact ⟨rfl, hbw⟩

theorem W_solveKnown (B K : Int) (a : Option Addr) (cap : Nat) (c : List UInt8) (ia : Option Addr) (ic : Nat) (xs : List Int) (w : World) (hB : I64 B) (hK : I64 K) (hm : c.length ≤ maxLen) (hcap : c.length ≤ cap) (ha : Lies w a (bs c)) (hi : Lies w ia (xs.map (Value.int .i64))) (hix : ∀ x ∈ xs, I64 x) (hic : xs.length ≤ ic) (hic2 : ic ≤ maxLen) (hL : Laid w) :
    Calls Tryd.prog 7 #[.agg #[.int .i64 B, .int .i64 K], .slice a c.length cap, .slice ia xs.length ic] w fun e w' => e = .returned (.bool true) ∧ Below w.heap.size w w' := by
  by_cases h0 : cutCode B K c = 0
  · obtain ⟨n, k, nb, g, hcn⟩ := cutCode_zero h0
    obtain rfl := g.eB
    obtain rfl := g.eK
    have h := knownW_good n k nb xs.length a cap c ia ic xs w g hcn (by omega) ha hi hix rfl (by omega) hic hic2 hL
    rw [← hcn] at h ⊢
    exact h
  · exact knownW_out B K c.length a cap c _ _ w rfl h0 hB hK hm hcap ha

end Go.Proofs.YtkiejflgphjfjacDoor

/-
  What came in, opened: byte slices and slices of byte slices, whatever their readings are. Nothing of any program.
-/
namespace Go.Proofs.YtkiejflgphjfjacDoor
open Go.ChangeShapes Go.WideShapes Go.ChangeAt Go.RowKit
set_option linter.unusedVariables false
set_option linter.unusedSimpArgs false

section
variable {H : Type} {enc : TypeId × Value → H} {P : Program} {w : World} {held : Bool}

theorem u8_of_wf {n : Int} (h : (Lit.int .u8 n).wf = true) : 0 ≤ n ∧ n < 256 := by
  have : 0 ≤ n ∧ n ≤ 255 := by simpa [Lit.wf, IntKind.min, IntKind.max, IntKind.signed, IntKind.bits] using h
  omega

/-- an address of cells has no spot of its own -/
theorem lies_addr {a : Addr} {k : Nat} {u u0 : Value} (h0 : w.cell? (a.add 0) = some u0) (hk : w.cell? (a.add k) = some u) : ∃ b off, some a = some (⟨b, off, none⟩ : Addr) ∧ w.cell? ⟨b, off + k, none⟩ = some u := by
  obtain ⟨b, off, spot⟩ := a
  have hspot : spot = none := by simpa [Addr.add] using World.cell?_spot h0
  subst hspot
  exact ⟨b, off, rfl, by simpa [Addr.add_lit] using hk⟩

theorem open_bytes {t e : TypeId} {fuel : Nat} {v : Value} {x : DataW H × List MemPlace} (ht : P.underlying t = some (.slice e)) (he : P.underlying e = some (.int .u8)) (hc : P.cellsOf e = 1)
    (h : DataW.trod enc P w 0 (fun _ => true) held fuel t [v] = some x) : ∃ a cap l, v = .slice a l.length cap ∧ Lies w a (bs l) ∧ l.length ≤ maxLen := by
  rcases open_ints ht he hc h with ⟨hcs, _⟩ | ⟨a, len, cap, zs, hcs, _, hl, hm, hz, _, hcell, hwz⟩
  · simp at hcs
    subst hcs
    exact ⟨none, 0, [], rfl, Lies.nil _ _, by simp⟩
  · simp at hcs hz
    subst hcs
    refine ⟨some a, cap, (zs.take len).map fun z => UInt8.ofNat z.toNat, ?_, ?_, ?_⟩
    · simp; omega
    · intro k u hu
      have hk : k < len := by
        obtain ⟨hk, _⟩ := List.getElem?_eq_some_iff.1 hu
        simp [bs] at hk
        omega
      have hkz : k < zs.length := by omega
      have hcl := hcell k hkz
      have hwf := u8_of_wf (hwz zs[k] (by simp))
      have hu' : u = .int .u8 (zs[k]) := by
        simp [bs, hk, hkz] at hu
        rw [← hu]
        congr 1
        omega
      subst hu'
      have e2 : zs.getD k 0 = zs[k] := by simp [List.getD, hkz]
      rw [e2] at hcl
      exact lies_addr (hcell 0 (by omega)) hcl
    · simp; omega

theorem open_blocks {t e e8 : TypeId} {fuel : Nat} {v : Value} {d : DataW H} {ps : List MemPlace} (ht : P.underlying t = some (.slice e)) (hte : P.underlying e = some (.slice e8)) (he : P.underlying e8 = some (.int .u8)) (hc : P.cellsOf e = 1) (hc8 : P.cellsOf e8 = 1)
    (h : DataW.trod enc P w 0 (fun _ => true) held fuel t [v] = some (d, ps)) :
    ∃ a cap bl, v = .slice a bl.length cap ∧ Lies w a (bl.map Blk.val) ∧ AllIn w bl ∧ bl.length ≤ maxLen ∧ ((d = .nil ∧ bl = []) ∨ ∃ elems sp, d = .slice elems sp ∧ elems.length = bl.length) := by
  rcases Go.Deep.open_slice1 ht hc h with ⟨hcs, hx⟩ | ⟨a, len, cap, m, n, V, D, Pl, hcs, _, hl, hm, hmm, hx, hcell⟩
  · simp at hcs hx
    subst hcs
    exact ⟨none, 0, [], rfl, Lies.nil _ _, (fun b hb => by simp at hb), by simp, .inl ⟨hx.1, rfl⟩⟩
  · simp at hcs hx hmm
    subst hcs hmm
    have hb : ∀ i, i < m → ∃ b : Blk, V i = b.val ∧ Lies w b.a (bs b.l) ∧ b.l.length ≤ maxLen := fun i hi => by
      obtain ⟨a', cap', l, e1, e2, e3⟩ := open_bytes hte he hc8 (hcell i hi).2
      exact ⟨⟨a', cap', l⟩, e1, e2, e3⟩
    have : Inhabited Blk := ⟨⟨none, 0, []⟩⟩
    obtain ⟨B, hB⟩ := Go.Deep.choose_lt hb
    refine ⟨some a, m, (List.range len).map B, by simp, ?_, ?_, by simp; omega, .inr ⟨_, _, hx.1, by simp⟩⟩
    · intro k u hu
      have hk : k < len := by
        obtain ⟨hk, _⟩ := List.getElem?_eq_some_iff.1 hu
        simpa using hk
      have hu' : u = V k := by
        simp [hk] at hu
        rw [← hu, (hB k (by omega)).1]
      subst hu'
      exact lies_addr (hcell 0 (by omega)).1 (hcell k (by omega)).1
    · intro b hb
      obtain ⟨i, hi, rfl⟩ := List.mem_map.1 hb
      exact (hB i (by simp at hi; omega)).2
end
end Go.Proofs.YtkiejflgphjfjacDoor
