import Derived.Test.YtclbmfjincekfacDoorPart19
import Derived.Test.YtclbmfjincekfacDoorPart16
import Derived.Test.YtclbmfjincekfacDoorPart1
import Derived.ProofKit
import Derived.OpenShut
import Derived.ShutString
import Derived.ChangeOld
import Derived.Below
import Derived.Carry
import Derived.SizedLaws
import Derived.Deep.Slices
import Derived.Test.YtclbmfjincekfacDoorPart6
import Derived.Lib.SmallJoins
import Derived.Test.YtclbmfjincekfacDoorPart15
/-
  slices.Grow of nothing and slices.Concat at numbers: the contract of each.
-/
namespace Go.Proofs.YtclbmfjincekfacDoor
open Go.RowKit
set_option linter.unusedVariables false
set_option linter.unusedSimpArgs false

/-- a list of numbers in memory -/
structure IBlk where
  a : Option Addr
  cap : Nat
  l : List Int

def IBlk.val (b : IBlk) : Value := .slice b.a b.l.length b.cap
def is (l : List Int) : List Value := l.map (Value.int .i64)
theorem isl_length (l : List Int) : (is l).length = l.length := by simp [is]

set_option maxRecDepth 8000 in
set_option maxHeartbeats 1000000 in
theorem growI_nil (s : Nat) (w : World) (hs : s ≤ 65536) :
    Calls Tryd.prog 38 #[.slice none 0 0, .int .i64 s] w fun e w' => ∃ v, e = .returned v ∧ w'.ownsRow w.heap.size 3 1 v 0 [] ∧ Below w.heap.size w w' := by
  obtain ⟨i0, hi, hz0, hz1, hz2⟩ := info_parts infoI
  by_cases h0 : s = 0
  · subst h0
    go_enter Tryd.func38, Tryd.ntmps38
    go_wp2
    go_ret
    exact ⟨_, rfl, World.ownsRow_nil _ _ _ _, Below.refl _ _⟩
  · have h1 : 0 < s := by omega
    have h2 : (0 : Int) < (s : Int) := by omega
    clear h0
    have hrz : ∀ ty, (Builtin.append_ #[32, 3] ty #[.slice none 0 0, .int .i64 s]).run Tryd.prog w = .ok (.slice (some ⟨w.heap.size, 0, none⟩) s (grownCap w s 0 3)) (w.drew.alloc (.cells (Builtin.zeroCells #[.int .i64 0] s ++ Builtin.zeroCells #[.int .i64 0] (grownCap w s 0 3 - s)) 3)) := fun ty =>
      Lib.run_append_nil_zeros w 32 3 ty 3 i0 (.int .i64 0) .i64 .i64 Tryd.underlying32 Tryd.underlying3 hi hz0 s h1 (by omega) (by omega) (by rw [hz2]; omega)
    have hGn : s ≤ grownCap w s 0 3 := grownCap_ge w _ _ _
    have hG63 := grownCap_le_maxLen w s 0 3 (by unfold maxLen; omega)
    have HR : Hid ((w.drew.alloc (.cells (Builtin.zeroCells #[.int .i64 0] s ++ Builtin.zeroCells #[.int .i64 0] (grownCap w s 0 3 - s)) 3)).ownsRow w.heap.size 3 1 (.slice (some ⟨w.heap.size, 0, none⟩) 0 (grownCap w s 0 3)) 0 []) :=
      ⟨rfl, .inr ⟨w.heap.size, _, _, rfl, Nat.le_refl _, (heap_alloc_eq w.drew _ _).trans (if_pos rfl), Nat.zero_le _, hG63, by simp [zeroCells_size]; omega, rfl⟩⟩
    generalize grownCap w s 0 3 = G at *
    unfold maxLen at hG63
    have hG : (G : Int) ≤ 9223372036854775807 := by omega
    clear hG63
    go_enter Tryd.func38, Tryd.ntmps38
    go_wp2_with (at_builtin; refine Lib.wpList_append_run _ rfl _ _ _ _ rfl _ _ rfl rfl _ _ (hrz _) ?_)
    all_goals
      go_ret
      exact ⟨_, rfl, HR.out, (Below.refl _ _).drew.alloc (Nat.le_refl _) _⟩

/-- how many bytes the first m have -/
def totI (bl : List IBlk) (m : Nat) : Nat := (((bl.map IBlk.l).take m).flatten).length

theorem totI_succ {bl : List IBlk} {m : Nat} (h : m < bl.length) : totI bl (m + 1) = totI bl m + bl[m].l.length := by
  unfold totI
  rw [List.take_succ_eq_append_getElem (by simpa using h)]
  simp

theorem totI_le (bl : List IBlk) (m : Nat) : totI bl m ≤ ((bl.map IBlk.l).flatten).length := by
  unfold totI
  have h := congrArg (fun l => l.flatten.length) (List.take_append_drop m (bl.map IBlk.l))
  simp only [List.flatten_append, List.length_append] at h
  omega

theorem concatI_step {w wr w1 : World} {v v' : Value} {bl : List IBlk} {m : Nat} (hlt : m < bl.length) (hb : Below w.heap.size w wr) (ho : wr.ownsRow w.heap.size 3 1 v (totI bl m) (is ((bl.map IBlk.l).take m).flatten))
    (ho' : w1.ownsRow w.heap.size 3 1 v' (totI bl m + bl[m].l.length) (is ((bl.map IBlk.l).take m).flatten ++ is bl[m].l)) (hg : wr.grownBy w1 v.ownBlock) :
    w1.ownsRow w.heap.size 3 1 v' (totI bl (m + 1)) (is ((bl.map IBlk.l).take (m + 1)).flatten) ∧ Below w.heap.size w w1 := by
  refine ⟨?_, hb.grown hg hb.size fun g hg' => (ho.lt g hg').1⟩
  rw [totI_succ hlt, List.take_succ_eq_append_getElem (by simpa using hlt)]
  simpa [is] using ho'

theorem liesI_none {w : World} {l : List Int} (h : Lies w none (is l)) : l = [] := by
  cases l with
  | nil => rfl
  | cons x r =>
    obtain ⟨_, _, e, _⟩ := h 0 _ (by simp [is]; rfl)
    simp at e

theorem liesI_add {w : World} {ad : Addr} {l : List Int} (h : Lies w (some ad) (is l)) : ∀ j u, (is l)[j]? = some u → w.cell? (ad.add j) = some u := by
  intro j u hu
  obtain ⟨b, o, e, hc⟩ := h j u hu
  simp at e
  subst e
  simpa [Addr.add_lit] using hc

set_option maxRecDepth 8000 in
set_option maxHeartbeats 1000000 in
theorem concatI_any (a : Option Addr) (cap : Nat) (bl : List IBlk) (w : World) (hn : bl.length ≤ maxLen) (htot : ((bl.map IBlk.l).flatten).length ≤ 65536) (ha : Lies w a (bl.map IBlk.val)) (hall : ∀ b ∈ bl, Lies w b.a (is b.l)) :
    Calls Tryd.prog 20 #[.slice a bl.length cap] w fun e w' => ∃ v, e = .returned v ∧ w'.ownsRow w.heap.size 3 1 v ((bl.map IBlk.l).flatten).length (is (bl.map IBlk.l).flatten) ∧ Below w.heap.size w w' := by
  obtain ⟨i0, hi, hz0, hz1, hz2⟩ := info_parts infoI
  have HT : Hid (((bl.map IBlk.l).flatten).length ≤ 65536) := htot
  unfold maxLen at hn
  clear htot
  go_enter Tryd.func20, Tryd.ntmps20
  go_wp2
  go_loop [3, 11] (fun c i => ∃ m : Nat, m ≤ bl.length ∧ i = .int .i64 m ∧ c = .int .i64 (totI bl m)) (fun _ i => bl.length - (intOf i).toNat)
  case atStart => exact ⟨0, Nat.zero_le _, rfl, rfl⟩
  case round =>
    obtain ⟨m, hm, rfl, rfl⟩ := hrel
    by_cases hlt : m < bl.length
    · obtain ⟨b1, o1, rfl⟩ := ha.some (k := m) (by simpa using hlt)
      have h1 : w.cell? ⟨b1, o1 + m, none⟩ = some (.slice bl[m].a bl[m].l.length bl[m].cap) := ha.at (by simp [hlt, IBlk.val])
      have hs := totI_succ hlt
      have hle := totI_le bl (m + 1)
      have := HT.out
      have hb1 : totI bl m ≤ 65536 := by omega
      have hb2 : bl[m].l.length ≤ 65536 := by omega
      have HS : Hid (totI bl (m + 1) = totI bl m + bl[m].l.length) := hs
      clear hs hle this
      go_wp2
      go_round
      case rel => exact ⟨m + 1, by omega, by go_num, congrArg (Value.int .i64) (by rw [HS.out]; simp)⟩
      case measure => simp [intOf]; omega
    · have HM : Hid (m = bl.length) := by have : m = bl.length := by omega
                                          exact this
      have hle := totI_le bl m
      have := HT.out
      have hb1 : totI bl m ≤ 65536 := by omega
      clear hle this
      go_wp2_with fail
      refine (growI_nil _ _ hb1).mono ?_
      rintro e w1 ⟨v1, rfl, ho1, hb⟩
      clear hb1
      go_wp2
      go_loopw [6, 27] (fun v i wr => ∃ m : Nat, m ≤ bl.length ∧ i = .int .i64 m ∧ wr.ownsRow w.heap.size 3 1 v (totI bl m) (is ((bl.map IBlk.l).take m).flatten) ∧ Below w.heap.size w wr) (fun _ i _ => bl.length - (intOf i).toNat)
      case atStart => exact ⟨0, Nat.zero_le _, rfl, ho1, hb⟩
      case round =>
        clear ho1 hb
        obtain ⟨m, hm, rfl, hown, hbw⟩ := hrel
        by_cases hlt : m < bl.length
        · obtain ⟨b1, o1, rfl⟩ := ha.some (k := m) (by simpa using hlt)
          have h1 : wr.cell? ⟨b1, o1 + m, none⟩ = some (.slice bl[m].a bl[m].l.length bl[m].cap) := (ha.below hbw (Nat.le_refl _)).at (by simp [hlt, IBlk.val])
          have hla := (hall bl[m] (by simp)).below hbw (Nat.le_refl _)
          have hsz := hbw.size
          have hs := totI_succ hlt
          have hle := totI_le bl (m + 1)
          have := HT.out
          have hb1 : totI bl m + bl[m].l.length ≤ 65536 := by omega
          have HS : Hid (totI bl (m + 1) = totI bl m + bl[m].l.length) := hs
          clear hs hle this
          cases had : bl[m].a with
          | none =>
            rw [had] at h1 hla
            have HE : Hid (bl[m].l = []) := liesI_none hla
            have h0 : bl[m].l.length = 0 := by rw [HE.out]; rfl
            rw [h0] at h1
            obtain ⟨p6, q6, rfl, hq6⟩ := own_slice hown
            have hq : p6 = none → q6 = 0 := fun e => by subst e; exact own_none hown
            have R : Hid (wr.ownsRow w.heap.size 3 1 (.slice p6 (totI bl m) q6) (totI bl (m + 1)) (is ((bl.map IBlk.l).take (m + 1)).flatten)) := by
              show wr.ownsRow w.heap.size 3 1 (.slice p6 (totI bl m) q6) (totI bl (m + 1)) (is ((bl.map IBlk.l).take (m + 1)).flatten)
              rw [HS.out, List.take_succ_eq_append_getElem (by simpa using hlt)]
              simpa [h0, HE.out] using hown
            clear had hla h0 hown hb1
            go_wp2_with (first | (at_builtin; refine Lib.wpList_append_run _ rfl _ _ _ _ rfl _ _ rfl rfl _ _ (run_append_nothing _ _ _ 3 i0 Tryd.underlying32 hi _ _ _ _ hq6) ?_) | go_in)
            go_roundw
            case rel => exact ⟨m + 1, by omega, by go_num, R.out, hbw⟩
            case measure => simp [intOf]; omega
          | some ad =>
            rw [had] at h1 hla
            clear had
            go_wp2_with (first | (at_builtin; refine wpList_append_own _ rfl _ _ 32 rfl w.heap.size 3 i0 (.int .i64 0) 1 8 Tryd.underlying32 hi hz0 hz1 hz2 rfl (by decide) _ _ _ rfl hown ad bl[m].l.length bl[m].cap (is bl[m].l) rfl ?c0 ?c1 ?c2 ?c3 ?c4 ?c5 ?_) | go_in)
            case c0 => simp [isl_length]
            case c1 => exact liesI_add hla
            case c2 =>
              intro u hu
              obtain ⟨x, _, rfl⟩ := List.mem_map.1 hu
              rfl
            case c3 => unfold maxLen; omega
            case c4 => omega
            case c5 => omega
            intro v' w1 hown' hgrow _
            have R := concatI_step hlt hbw hown hown' hgrow
            clear hown' hgrow hown hbw h1 hla
            go_wp2
            go_roundw
            case rel => exact ⟨m + 1, by omega, by go_num, R.1, R.2⟩
            case measure => simp [intOf]; omega
        · have HK : Hid (m = bl.length) := by have : m = bl.length := by omega
                                              exact this
          go_wp2
          go_ret
          refine ⟨_, rfl, ?_, hbw⟩
          have hk := HK.out
          subst hk
          unfold totI at hown
          rwa [List.take_of_length_le (by simp)] at hown

end Go.Proofs.YtclbmfjincekfacDoor

/-
  SolveEnough: the walk.
-/
namespace Go.Proofs.YtclbmfjincekfacDoor
open Go.RowKit
set_option linter.unusedVariables false
set_option linter.unusedSimpArgs false

def firstN (q : Nat) : List Int := (List.range q).map fun j : Nat => (j : Int)
theorem firstN_length (q : Nat) : (firstN q).length = q := by simp [firstN]
theorem firstN_succ (q : Nat) : is (firstN (q + 1)) = is (firstN q) ++ [.int .i64 (q : Int)] := by simp [firstN, is, List.range_succ]

theorem own_cap {w : World} {B n q : Nat} {e : TypeId} {a : Option Addr} {xs : List Value} (h : w.ownsRow B e 1 (.slice a n q) n xs) : n ≤ q ∧ q ≤ maxLen := by
  rcases h.2 with ⟨e1, h0⟩ | ⟨g, cap, cur, e1, hb, hg, hnc, hcm, hcs, htake⟩
  · cases e1
    exact ⟨Nat.le_refl _, by unfold maxLen; omega⟩
  · cases e1
    exact ⟨hnc, hcm⟩

/-- the first symbols are enough -/
theorem enough {B K : Int} {n k nb p : Nat} (g : Good B K n k nb) {c : List UInt8} (hc : c.length = n) {xs : List Int} (hp : p ≤ 30) {ls : List LSym} (hls : ls = (idsOf (xs.take p ++ firstN nb)).map (symOf nb k c)) :
    decCode B K ls = 0 ∧ decRes B K ls = c := by
  subst hls
  have b2 := g.b2
  obtain ⟨P, hP, hR, hS, hT, hA⟩ := sym_rows g c (idsOf (xs.take p ++ firstN nb)) (idsOf_le _)
  have h60 : (idsOf (xs.take p ++ firstN nb)).length ≤ 60 := by rw [idsOf_length]; omega
  have hmem : ∀ j, j < nb → j ∈ idsOf (xs.take p ++ firstN nb) := fun j hj => by
    unfold idsOf
    rw [List.take_of_length_le (by simp [firstN_length]; omega)]
    refine List.mem_map.2 ⟨(j : Int), ?_, ?_⟩
    · refine List.mem_append.2 (.inr ?_)
      exact List.mem_map.2 ⟨j, List.mem_range.2 hj, rfl⟩
    · unfold atN
      rw [if_neg (by rw [Int.tmod_eq_of_lt (by omega) (by omega)]; omega), Int.tmod_eq_of_lt (by omega) (by omega)]
      simp
  have hl := first_enough g c hR hS hmem
  rcases dec_true g hc (idsOf_le _) h60 hP with ⟨h, _⟩ | ⟨_, h1, h2⟩
  · omega
  · exact ⟨h1, h2⟩

/-- the first numbers, in the making -/
def FstInv (w wr : World) (v : Value) (q : Nat) : Prop := wr.ownsRow w.heap.size 3 1 v q (is (firstN q)) ∧ Below w.heap.size w wr

theorem FstInv.next {w wr w4 : World} {v v' : Value} {q : Nat} {o : Obj} (h : FstInv w wr v q) (ho : w4.ownsRow w.heap.size 3 1 v' (q + 1) (is (firstN q) ++ [.int .i64 (q : Int)])) (hg : (wr.alloc o).grownBy w4 v.ownBlock) : FstInv w w4 v' (q + 1) := by
  refine ⟨by rw [firstN_succ]; exact ho, ?_⟩
  refine (h.2.alloc h.2.size o).grown hg (by have := h.2.size; simp; omega) ?_
  intro g hg'
  exact (h.1.lt g hg').1

/-- where nothing is asked -/
theorem enough_out (B K : Int) (n : Nat) (a : Option Addr) (cap : Nat) (s3 : Value) (q : Int) (w : World) (hB : I64 B) (hK : I64 K) (hn : n ≤ maxLen) (hq : chkP B K = q) (h : q ≠ 0 ∨ (n : Int) ≠ B) :
    Calls Tryd.prog 6 #[.agg #[.int .i64 B, .int .i64 K], .slice a n cap, s3] w fun e w' => e = .returned (.bool true) ∧ Below w.heap.size w w' := by
  unfold maxLen at hn
  have hBl : Below w.heap.size w (w.alloc (.cells #[.int .i64 B, .int .i64 K] 23)) := (Below.refl _ _).alloc (Nat.le_refl _) _
  have blk : (w.alloc (.cells #[.int .i64 B, .int .i64 K] 23)).heap[w.heap.size]? = some (.cells #[.int .i64 B, .int .i64 K] 23 (0, 0)) := by rw [heap_alloc_eq, if_pos rfl]
  have HB := Shut.mk blk
  have HQ := Shut.mk hq
  have HH : Shut ((q != 0) = true ∨ (q = 0 ∧ ((n : Int) != B) = true)) := ⟨by
    by_cases h0 : q = 0
    · exact .inr ⟨h0, by rcases h with h | h; exact absurd h0 h; simpa using h⟩
    · exact .inl (by simpa using h0)⟩
  clear blk hq h
  go_enter Tryd.func6, Tryd.ntmps6
  go_wp2_with fail
  refine (solved_any _).mono ?_
  rintro e w1 ⟨rfl, hb1⟩
  obtain ⟨x0, x1⟩ := cells2 (blk_below HB.out hb1)
  replace HB := Shut.mk (blk_below HB.out hb1)
  replace hBl := hBl.trans (hb1.mono hBl.size)
  clear hb1
  go_wp2_with fail
  refine (cutCheck_any B K _ hB hK).mono ?_
  rintro e w2 ⟨rfl, hb2⟩
  rw [HQ.out]
  obtain ⟨y0, y1⟩ := cells2 (blk_below HB.out hb2)
  replace hBl := hBl.trans (hb2.mono hBl.size)
  clear hb2 x0 x1
  rcases HH.out with h1 | ⟨rfl, h2⟩
  all_goals
    go_wp2_with fail
    refine (solved_any _).mono ?_
    rintro e w3 ⟨rfl, hb3⟩
    replace hBl := hBl.trans (hb3.mono hBl.size)
    clear hb3
    go_wp2
    go_ret
    exact ⟨rfl, hBl⟩

set_option maxHeartbeats 4000000 in
set_option maxRecDepth 8000 in
theorem enough_good (n k nb m : Nat) (a : Option Addr) (cap : Nat) (c : List UInt8) (ia : Option Addr) (ic : Nat) (xs : List Int) (w : World) (g : Good n k n k nb) (hl : c.length = n) (hcap : n ≤ cap) (ha : Lies w a (bs c)) (hi : Lies w ia (is xs)) (hix : ∀ x ∈ xs, I64 x) (hxm : xs.length = m) (hmm : m ≤ maxLen) (hic : m ≤ ic) (hic2 : ic ≤ maxLen) (hL : Laid w) :
    Calls Tryd.prog 6 #[.agg #[.int .i64 n, .int .i64 k], .slice a n cap, .slice ia m ic] w fun e w' => e = .returned (.bool true) ∧ Below w.heap.size w w' := by
  have n2 := g.n2
  have k1 := g.k1
  have k2 := g.k2
  have b1 := g.b1
  have b2 := g.b2
  have hB : I64 n := ⟨by omega, by omega⟩
  have hK : I64 k := ⟨by omega, by omega⟩
  have hBl : Below w.heap.size w (w.alloc (.cells #[.int .i64 n, .int .i64 k] 23)) := (Below.refl _ _).alloc (Nat.le_refl _) _
  have HB : Shut ((w.alloc (.cells #[.int .i64 n, .int .i64 k] 23)).heap[w.heap.size]? = some (.cells #[.int .i64 n, .int .i64 k] 23 (0, 0))) := ⟨by rw [heap_alloc_eq, if_pos rfl]⟩
  have HQ := Shut.mk (chkP_good g)
  obtain ⟨i0, hii, hz0, hz1, hz2⟩ := info_parts infoI
  have hBk : ∀ W, Calls Tryd.prog 19 #[.agg #[.int .i64 n, .int .i64 k]] W fun e w' => e = .returned (.int .i64 nb) ∧ Below W.heap.size W w' := fun W => by
    have h := cutBlocks_any n k W hB hK
    rw [g.eN] at h
    exact h
  unfold maxLen at hmm hic2
  obtain ⟨p, hp⟩ : ∃ p : Nat, min m 30 = p := ⟨_, rfl⟩
  have hp30 : p ≤ 30 := by omega
  have hpm : p ≤ m := by omega
  have hmin : min (m : Int) 30 = (p : Int) := by omega
  have hI1 : (0 : Int) ≤ (p : Int) := by omega
  have hI2 : (p : Int) ≤ (ic : Int) := by omega
  have hI3 : (p : Int) ≤ (m : Int) := by omega
  have hI4 : p ≤ ic := by omega
  have HX := Shut.mk (And.intro hl (And.intro hcap (And.intro ha (And.intro hi (And.intro hix (And.intro hxm (And.intro hL g)))))))
  clear hl hcap ha hi hix hxm hL g hp
  go_enter Tryd.func6, Tryd.ntmps6
  go_wp2_with fail
  refine (solved_any _).mono ?_
  rintro e w1 ⟨rfl, hb1⟩
  obtain ⟨x0, x1⟩ := cells2 (blk_below HB.out hb1)
  replace HB := Shut.mk (blk_below HB.out hb1)
  replace hBl := hBl.trans (hb1.mono hBl.size)
  clear hb1
  go_wp2_with fail
  refine (cutCheck_any n k _ hB hK).mono ?_
  rintro e w2 ⟨rfl, hb2⟩
  rw [HQ.out]
  clear x0 x1
  obtain ⟨x0, x1⟩ := cells2 (blk_below HB.out hb2)
  replace HB := Shut.mk (blk_below HB.out hb2)
  replace hBl := hBl.trans (hb2.mono hBl.size)
  clear hb2
  go_wp2_with fail
  refine (hBk _).mono ?_
  rintro e w3 ⟨rfl, hb3⟩
  clear hBk x0 x1
  replace HB := Shut.mk (blk_below HB.out hb3)
  replace hBl := hBl.trans (hb3.mono hBl.size)
  clear hb3
  have H0 : Shut (FstInv w3 w3 (.slice none 0 0) 0) := ⟨World.ownsRow_nil _ _ _ _, Below.refl _ _⟩
  go_wp2
  go_loopw [7, 28] (fun v i wr => ∃ q : Nat, q ≤ nb ∧ i = .int .i64 q ∧ Shut (FstInv w3 wr v q)) (fun _ i _ => nb - (intOf i).toNat)
  case atStart => exact ⟨0, Nat.zero_le _, rfl, H0⟩
  case round =>
    clear H0
    obtain ⟨q, hq, rfl, HI⟩ := hrel
    by_cases hlt : q < nb
    · have hown := HI.out.1
      have hsz := HI.out.2.size
      go_wp2_with (first | (at_builtin; refine wpList_append_own _ rfl _ _ 32 rfl w3.heap.size 3 i0 (.int .i64 0) 1 8 Tryd.underlying32 hii hz0 hz1 hz2 rfl (by decide) _ _ _ rfl (hown.alloc _) ⟨wr.heap.size, 0, none⟩ 1 1 [.int .i64 q] rfl rfl ?c1 ?c2 ?c3 ?c4 ?c5 ?_) | go_in)
      case c1 =>
        intro j u hj
        match j, hj with
        | 0, hj => simp at hj; subst hj; simp [Addr.add]
      case c2 => intro u hu; simp at hu; subst hu; rfl
      case c3 => unfold maxLen; omega
      case c4 => omega
      case c5 => simp; omega
      intro v' w4 hown' hgrow _
      have R := Shut.mk (HI.out.next hown' hgrow)
      clear hown' hgrow hown hsz HI
      go_wp2
      go_roundw
      case rel => exact ⟨q + 1, by omega, by go_num, R⟩
      case measure => simp [intOf]; omega
    · obtain rfl : q = nb := by omega
      obtain ⟨fa, fc, hfv, hfc⟩ := own_slice HI.out.1
      subst hfv
      obtain ⟨fa', fc', hv', hfl, hfn⟩ := own_lies HI.out.1
      cases hv'
      clear hfn
      have hbr := HI.out.2
      have HBR := Shut.mk (blk_below HB.out hbr)
      have hBr := hBl.trans (hbr.mono hBl.size)
      have HFL := Shut.mk hfl
      clear hfl HI hbr
      obtain ⟨ys, hys⟩ : ∃ ys, xs.take p ++ firstN q = ys := ⟨_, rfl⟩
      obtain ⟨pn, hpn⟩ : ∃ pn, p + q = pn := ⟨_, rfl⟩
      obtain ⟨sm, hsm⟩ : ∃ sm, (idsOf ys).length = sm := ⟨_, rfl⟩
      have hsm60 : sm ≤ 60 := by rw [← hsm, idsOf_length]; omega
      have hyl : ys.length = pn := by rw [← hys, List.length_append, firstN_length, List.length_take, HX.out.2.2.2.2.2.1, Nat.min_eq_left hpm]; exact hpn
      have hCat : ∀ W, Below wr.heap.size wr W → W.heap[wr.heap.size]? = some (.cells #[.slice ia p ic, .slice fa q fc] 32 (0, 0)) → Calls Tryd.prog 20 #[.slice (some ⟨wr.heap.size, 0, none⟩) 2 2] W fun e w' => ∃ (ga : Option Addr) (gc : Nat), e = .returned (.slice ga pn gc) ∧ Lies w' ga (is ys) ∧ pn ≤ gc ∧ gc ≤ maxLen ∧ Below W.heap.size W w' := fun W hW hk => by
        obtain ⟨y0, y1⟩ := cells2 hk
        have hw := hBr.trans (hW.mono hBr.size)
        have hpx : (xs.take p).length = p := by rw [List.length_take, HX.out.2.2.2.2.2.1, Nat.min_eq_left hpm]
        have e1 : [IBlk.mk ia ic (xs.take p), IBlk.mk fa fc (firstN q)].map IBlk.val = [.slice ia p ic, .slice fa q fc] := by simp [IBlk.val, hpx, firstN_length, HX.out.2.2.2.2.2.1, hpm]
        have hlx : Lies W ia (is (xs.take p)) := by
          have h := HX.out.2.2.2.1.below hw (Nat.le_refl _)
          intro kk u hu
          refine h kk u ?_
          simp only [is, List.map_take] at hu ⊢
          rw [List.getElem?_take] at hu
          split at hu
          · exact hu
          · cases hu
        have h := concatI_any (some ⟨wr.heap.size, 0, none⟩) 2 [IBlk.mk ia ic (xs.take p), IBlk.mk fa fc (firstN q)] W (by simp [maxLen]) (by simp [firstN_length]; omega)
          (by
            rw [e1]
            refine Lies.mk fun kk hkk => ?_
            match kk, hkk with
            | 0, _ => simpa using y0
            | 1, _ => simpa using y1)
          (fun b hb => by
            simp at hb
            rcases hb with rfl | rfl
            · exact hlx
            · exact HFL.out.below hW (Nat.le_refl _))
        refine h.mono ?_
        rintro e w' ⟨v, rfl, ho, hb⟩
        have e2 : ([IBlk.mk ia ic (xs.take p), IBlk.mk fa fc (firstN q)].map IBlk.l).flatten = ys := by simpa using hys
        rw [e2, hyl] at ho
        obtain ⟨ga, gc, rfl, _⟩ := own_slice ho
        obtain ⟨ga', gc', hv', hgl, _⟩ := own_lies ho
        cases hv'
        exact ⟨ga, gc, rfl, hgl, (own_cap ho).1, (own_cap ho).2, hb⟩
      have hSy : ∀ (ga : Option Addr) (gc : Nat) (W : World), Below w.heap.size w W → Lies W ga (is ys) → pn ≤ gc → gc ≤ maxLen → Calls Tryd.prog 13 #[.agg #[.int .i64 n, .int .i64 k], .slice a n cap, .slice ga pn gc] W fun e w' => ∃ (la : Option Addr) (lc : Nat) (l : List MSym), e = .returned (.slice la sm lc) ∧ Shut (Lies w' la (symCells l) ∧ (∀ y ∈ l, SymIn w' y) ∧ l.length = sm ∧ l.map MSym.says = (idsOf ys).map (symOf q k c)) ∧ Below W.heap.size W w' := fun ga gc W hW hg h1 h2 => by
        refine (symbols_good n k n k q a cap c ga gc pn ys W HX.out.2.2.2.2.2.2.2 hB hK HX.out.1 HX.out.2.1 (HX.out.2.2.1.below hW (Nat.le_refl _)) hg (fun x hx => ?_) hyl (Nat.le_trans h1 h2) h1 h2 (HX.out.2.2.2.2.2.2.1.below hW)).mono ?_
        · rw [← hys] at hx
          rcases List.mem_append.1 hx with hx | hx
          · exact HX.out.2.2.2.2.1 x (List.mem_of_mem_take hx)
          · obtain ⟨j, hj, rfl⟩ := List.mem_map.1 hx
            have := List.mem_range.1 hj
            exact ⟨by omega, by omega⟩
        · rintro e w' ⟨v, rfl, l, ho, hmp, hall, hb⟩
          obtain ⟨la, lc, rfl, hla, hml, _, _⟩ := own_syms ho
          exact ⟨la, lc, l, by rw [hsm], ⟨hla, fun y hy => (hall y hy).1, by rw [← hml, hsm], hmp⟩, hb⟩
      have hDe : ∀ (la : Option Addr) (lc : Nat) (l : List MSym) (W : World), Below w.heap.size w W → Shut (Lies W la (symCells l) ∧ (∀ y ∈ l, SymIn W y) ∧ l.length = sm ∧ l.map MSym.says = (idsOf ys).map (symOf q k c)) → Calls Tryd.prog 8 #[.agg #[.int .i64 n, .int .i64 k], .slice la sm lc] W fun e w' => ∃ (a' : Option Addr) (c' : Nat), e = .returned (.tuple #[.slice a' n c', .int .i64 0]) ∧ Shut (Lies w' a' (bs c)) ∧ Below W.heap.size W w' := fun la lc l W hW hh => by
        have h := decode_any n k la lc l W hB hK hh.out.1 hh.out.2.1 (by rw [hh.out.2.2.1]; unfold maxLen; omega) (HX.out.2.2.2.2.2.2.1.below hW)
        obtain ⟨d1, d2⟩ := enough (B := n) (K := k) HX.out.2.2.2.2.2.2.2 HX.out.1 (xs := xs) hp30 (ls := l.map MSym.says) (by rw [hh.out.2.2.2, ← hys])
        rw [hh.out.2.2.1, d1, d2, HX.out.1] at h
        refine h.mono ?_
        rintro e w' ⟨a', c', rfl, h1, h2⟩
        exact ⟨a', c', rfl, ⟨h1⟩, h2⟩
      clear hys hpn hsm hyl
      obtain ⟨x0, x1⟩ := cells2 HBR.out
      have D1 : Shut (Below wr.heap.size wr (wr.drew.alloc (.cells #[.slice ia p ic, .slice fa q fc] 32))) := ⟨((Below.refl _ _).drew).alloc (Nat.le_refl _) _⟩
      have D2 : Shut (Below wr.heap.size wr ((wr.alloc (.cells #[.slice ia p ic, .slice fa q fc] 32)).drew)) := ⟨((Below.refl _ _).alloc (Nat.le_refl _) _).drew⟩
      have hC1 := hCat _ D1.out ((heap_alloc_eq wr.drew _ _).trans (if_pos rfl))
      have hC2 := hCat _ D2.out (by show (wr.alloc _).heap[wr.heap.size]? = _; rw [heap_alloc_eq, if_pos rfl])
      have v0 : wr.drew.cell? ⟨w.heap.size, 0, none⟩ = some (.int .i64 n) := x0
      have v1 : wr.drew.cell? ⟨w.heap.size, 1, none⟩ = some (.int .i64 k) := x1
      clear hCat
      go_upto_region 9 with fail
      go_region_held3 (fun w' => w'.cell? ⟨w.heap.size, 0, none⟩ = some (.int .i64 n) ∧ w'.cell? ⟨w.heap.size, 1, none⟩ = some (.int .i64 k)) (first | exact ⟨by assumption, by assumption⟩ | exact ⟨cellA' (by assumption) _, cellA' (by assumption) _⟩) (first | (go_at_call 20; (first | refine hC1.mono ?_ | refine hC2.mono ?_); rintro e w5 ⟨ga, gc, rfl, hg5, hgc1, hgc2, hb5⟩; have v2 := cellC (b := w.heap.size) (o := 0) (v := .int .i64 n) (by first | assumption | exact cellA' (by assumption) _) hb5; have v3 := cellC (b := w.heap.size) (o := 1) (v := .int .i64 k) (by first | assumption | exact cellA' (by assumption) _) hb5; have h5 : Below w.heap.size w w5 := (by first | exact hBr.trans ((D1.out.trans (hb5.mono D1.out.size)).mono hBr.size) | exact hBr.trans ((D2.out.trans (hb5.mono D2.out.size)).mono hBr.size))) | (go_at_call 13; refine (hSy ga gc w5 h5 hg5 hgc1 hgc2).mono ?_; rintro e w6 ⟨la, lc, sl, rfl, hs6, hb6⟩; have v4 := cellC (b := w.heap.size) (o := 0) (v := .int .i64 n) v2 hb6; have v5 := cellC (b := w.heap.size) (o := 1) (v := .int .i64 k) v3 hb6; have h6 := h5.trans (hb6.mono h5.size)) | (go_at_call 8; refine (hDe la lc sl w6 h6 hs6).mono ?_; rintro e w7 ⟨a7, c7, rfl, hl7, hb7⟩; have v6 := cellC (b := w.heap.size) (o := 0) (v := .int .i64 n) v4 hb7; have v7 := cellC (b := w.heap.size) (o := 1) (v := .int .i64 k) v5 hb7; have h7 := h6.trans (hb7.mono h6.size)))
      all_goals
        have hE := equalBytes (w := w7) a7 a c7 cap c c (by rw [HX.out.1]; unfold maxLen; omega) (by rw [HX.out.1]; unfold maxLen; omega) hl7.out (HX.out.2.2.1.below h7 (Nat.le_refl _))
        rw [HX.out.1, decide_eq_true rfl] at hE
        go_wp2_with fail
        refine hE.mono ?_
        rintro e w8 ⟨rfl, nn, rfl⟩
        have h8 := h7.trans (bdn w7 nn w.heap.size)
        clear hE
        go_wp2
        go_ret
        exact ⟨rfl, h8⟩

theorem W_solveEnough (B K : Int) (a : Option Addr) (cap : Nat) (c : List UInt8) (ia : Option Addr) (ic : Nat) (xs : List Int) (w : World) (hB : I64 B) (hK : I64 K) (hm : c.length ≤ maxLen) (hcap : c.length ≤ cap) (ha : Lies w a (bs c)) (hi : Lies w ia (xs.map (Value.int .i64))) (hix : ∀ x ∈ xs, I64 x) (hic : xs.length ≤ ic) (hic2 : ic ≤ maxLen) (hL : Laid w) :
    Calls Tryd.prog 6 #[.agg #[.int .i64 B, .int .i64 K], .slice a c.length cap, .slice ia xs.length ic] w fun e w' => e = .returned (.bool true) ∧ Below w.heap.size w w' := by
  by_cases h0 : chkP B K = 0
  · by_cases hn : (c.length : Int) = B
    · obtain ⟨n, k, nb, g⟩ := good_of h0
      have hcn : c.length = n := by have := g.eB; omega
      obtain rfl := g.eB
      obtain rfl := g.eK
      have h := enough_good n k nb xs.length a cap c ia ic xs w g hcn (by omega) ha hi hix rfl (by omega) hic hic2 hL
      rw [← hcn] at h ⊢
      exact h
    · exact enough_out B K c.length a cap _ _ w hB hK hm rfl (.inr hn)
  · exact enough_out B K c.length a cap _ _ w hB hK hm rfl (.inl h0)

end Go.Proofs.YtclbmfjincekfacDoor

/-
  What came in, opened: byte slices and slices of byte slices, whatever their readings are. Nothing of any program.
-/
namespace Go.Proofs.YtclbmfjincekfacDoor
open Go.ChangeShapes Go.WideShapes Go.ChangeAt Go.RowKit
set_option linter.unusedVariables false
set_option linter.unusedSimpArgs false

section
variable {H : Type} {enc : TypeId × Value → H} {P : Program} {w : World} {held : Bool}

theorem u8_of_wf {n : Int} (h : (Lit.int .u8 n).wf = true) : 0 ≤ n ∧ n < 256 := by
  have : 0 ≤ n ∧ n ≤ 255 := by simpa [Lit.wf, IntKind.min, IntKind.max, IntKind.signed, IntKind.bits] using h
  omega

/-- an address of cells has no spot of its own -/
theorem lies_addr {a : Addr} {k : Nat} {u u0 : Value} (h0 : w.cell? (a.add 0) = some u0) (hk : w.cell? (a.add k) = some u) : ∃ b off, some a = some (⟨b, off, none⟩ : Addr) ∧ w.cell? ⟨b, off + k, none⟩ = some u := by
  obtain ⟨b, off, spot⟩ := a
  have hspot : spot = none := by simpa [Addr.add] using World.cell?_spot h0
  subst hspot
  exact ⟨b, off, rfl, by simpa [Addr.add_lit] using hk⟩

theorem open_bytes {t e : TypeId} {fuel : Nat} {v : Value} {x : DataW H × List MemPlace} (ht : P.underlying t = some (.slice e)) (he : P.underlying e = some (.int .u8)) (hc : P.cellsOf e = 1)
    (h : DataW.trod enc P w 0 (fun _ => true) held fuel t [v] = some x) : ∃ a cap l, v = .slice a l.length cap ∧ Lies w a (bs l) ∧ l.length ≤ maxLen := by
  rcases open_ints ht he hc h with ⟨hcs, _⟩ | ⟨a, len, cap, zs, hcs, _, hl, hm, hz, _, hcell, hwz⟩
  · simp at hcs
    subst hcs
    exact ⟨none, 0, [], rfl, Lies.nil _ _, by simp⟩
  · simp at hcs hz
    subst hcs
    refine ⟨some a, cap, (zs.take len).map fun z => UInt8.ofNat z.toNat, ?_, ?_, ?_⟩
    · simp; omega
    · intro k u hu
      have hk : k < len := by
        obtain ⟨hk, _⟩ := List.getElem?_eq_some_iff.1 hu
        simp [bs] at hk
        omega
      have hkz : k < zs.length := by omega
      have hcl := hcell k hkz
      have hwf := u8_of_wf (hwz zs[k] (by simp))
      have hu' : u = .int .u8 (zs[k]) := by
        simp [bs, hk, hkz] at hu
        rw [← hu]
        congr 1
        omega
      subst hu'
      have e2 : zs.getD k 0 = zs[k] := by simp [List.getD, hkz]
      rw [e2] at hcl
      exact lies_addr (hcell 0 (by omega)) hcl
    · simp; omega

theorem open_blocks {t e e8 : TypeId} {fuel : Nat} {v : Value} {d : DataW H} {ps : List MemPlace} (ht : P.underlying t = some (.slice e)) (hte : P.underlying e = some (.slice e8)) (he : P.underlying e8 = some (.int .u8)) (hc : P.cellsOf e = 1) (hc8 : P.cellsOf e8 = 1)
    (h : DataW.trod enc P w 0 (fun _ => true) held fuel t [v] = some (d, ps)) :
    ∃ a cap bl, v = .slice a bl.length cap ∧ Lies w a (bl.map Blk.val) ∧ AllIn w bl ∧ bl.length ≤ maxLen ∧ ((d = .nil ∧ bl = []) ∨ ∃ elems sp, d = .slice elems sp ∧ elems.length = bl.length) := by
  rcases Go.Deep.open_slice1 ht hc h with ⟨hcs, hx⟩ | ⟨a, len, cap, m, n, V, D, Pl, hcs, _, hl, hm, hmm, hx, hcell⟩
  · simp at hcs hx
    subst hcs
    exact ⟨none, 0, [], rfl, Lies.nil _ _, (fun b hb => by simp at hb), by simp, .inl ⟨hx.1, rfl⟩⟩
  · simp at hcs hx hmm
    subst hcs hmm
    have hb : ∀ i, i < m → ∃ b : Blk, V i = b.val ∧ Lies w b.a (bs b.l) ∧ b.l.length ≤ maxLen := fun i hi => by
      obtain ⟨a', cap', l, e1, e2, e3⟩ := open_bytes hte he hc8 (hcell i hi).2
      exact ⟨⟨a', cap', l⟩, e1, e2, e3⟩
    have : Inhabited Blk := ⟨⟨none, 0, []⟩⟩
    obtain ⟨B, hB⟩ := Go.Deep.choose_lt hb
    refine ⟨some a, m, (List.range len).map B, by simp, ?_, ?_, by simp; omega, .inr ⟨_, _, hx.1, by simp⟩⟩
    · intro k u hu
      have hk : k < len := by
        obtain ⟨hk, _⟩ := List.getElem?_eq_some_iff.1 hu
        simpa using hk
      have hu' : u = V k := by
        simp [hk] at hu
        rw [← hu, (hB k (by omega)).1]
      subst hu'
      exact lies_addr (hcell 0 (by omega)).1 (hcell k (by omega)).1
    · intro b hb
      obtain ⟨i, hi, rfl⟩ := List.mem_map.1 hb
      exact (hB i (by simp at hi; omega)).2
end
end Go.Proofs.YtclbmfjincekfacDoor

/-
  What came in, opened, with what it has room for: byte slices, slices of byte slices, a struct of two ints, whatever their readings are. Nothing of any program.
-/
namespace Go.Proofs.YtclbmfjincekfacDoor
open Go.ChangeShapes Go.WideShapes Go.ChangeAt Go.RowKit
set_option linter.unusedVariables false
set_option linter.unusedSimpArgs false

section
variable {H : Type} {enc : TypeId × Value → H} {P : Program} {w : World} {held : Bool}

/-- how many elements a reading has -/
def dlen : DataW H → Nat
  | .slice el _ => el.length
  | _ => 0

theorem i64_of_wf {n : Int} (h : (Lit.int .i64 n).wf = true) : I64 n := by
  have : -9223372036854775808 ≤ n ∧ n ≤ 9223372036854775807 := by simpa [Lit.wf, IntKind.min, IntKind.max, IntKind.signed, IntKind.bits] using h
  exact this

theorem open_bytes2 {t e : TypeId} {fuel : Nat} {v : Value} {x : DataW H × List MemPlace} (ht : P.underlying t = some (.slice e)) (he : P.underlying e = some (.int .u8)) (hc : P.cellsOf e = 1)
    (h : DataW.trod enc P w 0 (fun _ => true) held fuel t [v] = some x) : ∃ a cap l, v = .slice a l.length cap ∧ Lies w a (bs l) ∧ l.length ≤ maxLen ∧ l.length ≤ cap ∧ dlen x.1 = l.length := by
  rcases open_ints ht he hc h with ⟨hcs, rfl⟩ | ⟨a, len, cap, zs, hcs, _, hl, hm, hz, rfl, hcell, hwz⟩
  · simp at hcs
    subst hcs
    exact ⟨none, 0, [], rfl, Lies.nil _ _, by simp, by simp, rfl⟩
  · simp at hcs hz
    subst hcs
    refine ⟨some a, cap, (zs.take len).map fun z => UInt8.ofNat z.toNat, ?_, ?_, ?_, ?_, ?_⟩
    · simp; omega
    · intro k u hu
      have hk : k < len := by
        obtain ⟨hk, _⟩ := List.getElem?_eq_some_iff.1 hu
        simp [bs] at hk
        omega
      have hkz : k < zs.length := by omega
      have hcl := hcell k hkz
      have hwf := u8_of_wf (hwz zs[k] (by simp))
      have hu' : u = .int .u8 (zs[k]) := by
        simp [bs, hk, hkz] at hu
        rw [← hu]
        congr 1
        omega
      subst hu'
      have e2 : zs.getD k 0 = zs[k] := by simp [List.getD, hkz]
      rw [e2] at hcl
      exact lies_addr (hcell 0 (by omega)) hcl
    · simp; omega
    · simp; omega
    · simp [dlen, lits]

theorem open_blocks2 {t e e8 : TypeId} {fuel : Nat} {v : Value} {d : DataW H} {ps : List MemPlace} (ht : P.underlying t = some (.slice e)) (hte : P.underlying e = some (.slice e8)) (he : P.underlying e8 = some (.int .u8)) (hc : P.cellsOf e = 1) (hc8 : P.cellsOf e8 = 1)
    (h : DataW.trod enc P w 0 (fun _ => true) held fuel t [v] = some (d, ps)) :
    ∃ a cap bl, v = .slice a bl.length cap ∧ Lies w a (bl.map Blk.val) ∧ AllIn w bl ∧ bl.length ≤ maxLen ∧ Caps bl ∧ ((d = .nil ∧ bl = []) ∨ ∃ elems sp, d = .slice elems sp ∧ elems.map dlen = bl.map fun b => b.l.length) := by
  rcases Go.Deep.open_slice1 ht hc h with ⟨hcs, hx⟩ | ⟨a, len, cap, m, n, V, D, Pl, hcs, _, hl, hm, hmm, hx, hcell⟩
  · simp at hcs hx
    subst hcs
    exact ⟨none, 0, [], rfl, Lies.nil _ _, (fun b hb => by simp at hb), by simp, (fun b hb => by simp at hb), .inl ⟨hx.1, rfl⟩⟩
  · simp at hcs hx hmm
    subst hcs hmm
    have hb : ∀ i, i < m → ∃ b : Blk, V i = b.val ∧ Lies w b.a (bs b.l) ∧ b.l.length ≤ maxLen ∧ b.l.length ≤ b.cap ∧ dlen (D i) = b.l.length := fun i hi => by
      obtain ⟨a', cap', l, e1, e2, e3, e4, e5⟩ := open_bytes2 hte he hc8 (hcell i hi).2
      exact ⟨⟨a', cap', l⟩, e1, e2, e3, e4, e5⟩
    have : Inhabited Blk := ⟨⟨none, 0, []⟩⟩
    obtain ⟨B, hB⟩ := Go.Deep.choose_lt hb
    refine ⟨some a, m, (List.range len).map B, by simp, ?_, ?_, by simp; omega, ?_, .inr ⟨_, _, hx.1, ?_⟩⟩
    · intro k u hu
      have hk : k < len := by
        obtain ⟨hk, _⟩ := List.getElem?_eq_some_iff.1 hu
        simpa using hk
      have hu' : u = V k := by
        simp [hk] at hu
        rw [← hu, (hB k (by omega)).1]
      subst hu'
      exact lies_addr (hcell 0 (by omega)).1 (hcell k (by omega)).1
    · intro b hb
      obtain ⟨i, hi, rfl⟩ := List.mem_map.1 hb
      have := hB i (by simp at hi; omega)
      exact ⟨this.2.1, this.2.2.1⟩
    · intro b hb
      obtain ⟨i, hi, rfl⟩ := List.mem_map.1 hb
      exact (hB i (by simp at hi; omega)).2.2.2.1
    · rw [List.map_map, List.map_map]
      apply List.map_congr_left
      intro i hi
      exact (hB i (by simp at hi; omega)).2.2.2.2

theorem open_plan {r : Reach} {b0 : Nat} {t : TypeId} {f0 f1 : Field} {v : Value} {d : DataW H} {p : List MemPlace} (hs : P.underlying t = some (.struct #[f0, f1])) (hone : Go.Deep.oneCellFields P #[f0, f1] = true) (hC : P.cellsOf t = 2)
    (h0 : P.underlying f0.type = some (.int .i64)) (h1 : P.underlying f1.type = some (.int .i64))
    (hv : Value.okWide P w r b0 t v) (h : DataW.Trod enc P w 0 (fun _ => true) held t v d p) : ∃ B K : Int, v = .agg #[.int .i64 B, .int .i64 K] ∧ I64 B ∧ I64 K := by
  obtain ⟨c0, c1, y0, y1, m, rfl, rfl, rfl, hy0, hy1⟩ := Go.Joins.open_agg2 hs hone hC hv h
  obtain ⟨a, e0, rfl, wa⟩ := DataW.trod_int h0 hy0
  obtain ⟨b, e1, rfl, wb⟩ := DataW.trod_int h1 hy1
  simp at e0 e1
  subst e0 e1
  exact ⟨a, b, rfl, i64_of_wf wa, i64_of_wf wb⟩
end
end Go.Proofs.YtclbmfjincekfacDoor

/-
  Slices of ints and of symbols that came in, opened, with what they have room for. Nothing of any program.
-/
namespace Go.Proofs.YtclbmfjincekfacDoor
open Go.ChangeShapes Go.WideShapes Go.ChangeAt Go.RowKit
set_option linter.unusedVariables false
set_option linter.unusedSimpArgs false

section
variable {H : Type} {enc : TypeId × Value → H} {P : Program} {w : World} {held : Bool}

theorem open_ints2 {t e : TypeId} {fuel : Nat} {v : Value} {x : DataW H × List MemPlace} (ht : P.underlying t = some (.slice e)) (he : P.underlying e = some (.int .i64)) (hc : P.cellsOf e = 1)
    (h : DataW.trod enc P w 0 (fun _ => true) held fuel t [v] = some x) : ∃ (a : Option Addr) (cap : Nat) (l : List Int), v = .slice a l.length cap ∧ Lies w a (l.map (Value.int .i64)) ∧ (∀ y ∈ l, I64 y) ∧ l.length ≤ cap ∧ cap ≤ maxLen := by
  rcases open_ints ht he hc h with ⟨hcs, _⟩ | ⟨a, len, cap, zs, hcs, _, hl, hm, hz, _, hcell, hwz⟩
  · simp at hcs
    subst hcs
    exact ⟨none, 0, [], rfl, Lies.nil _ _, (fun y hy => by cases hy), by simp, by simp [maxLen]⟩
  · simp at hcs hz
    subst hcs
    refine ⟨some a, cap, zs.take len, by simp; omega, ?_, fun y hy => i64_of_wf (hwz y (List.mem_of_mem_take hy)), by simp; omega, hm⟩
    intro k u hu
    have hk : k < len := by
      obtain ⟨hk, _⟩ := List.getElem?_eq_some_iff.1 hu
      simp at hk
      omega
    have hkz : k < zs.length := by omega
    have hcl := hcell k hkz
    have hu' : u = .int .i64 (zs[k]) := by
      simp [hk, hkz] at hu
      exact hu.symm
    subst hu'
    have e2 : zs.getD k 0 = zs[k] := by simp [List.getD, hkz]
    rw [e2] at hcl
    exact lies_addr (hcell 0 (by omega)) hcl

theorem cells_two' {base : Nat} {a : Addr} {cs : List Value} (h : w.cells? base a 2 = some cs) : ∃ c0 c1, cs = [c0, c1] ∧ w.cell? (a.add 0) = some c0 ∧ w.cell? (a.add 1) = some c1 := by
  obtain ⟨_, hlen, hc⟩ := World.cells?_some h
  match cs, hlen, hc with
  | [c0, c1], _, hc => exact ⟨c0, c1, rfl, hc 0 (by omega), hc 1 (by omega)⟩

theorem open_symbols {t e e8 : TypeId} {f0 f1 : Field} {fuel : Nat} {v : Value} {x : DataW H × List MemPlace} (ht : P.underlying t = some (.slice e)) (hC : P.cellsOf e = 2) (hs : P.underlying e = some (.struct #[f0, f1])) (hone : Go.Deep.oneCellFields P #[f0, f1] = true)
    (h0 : P.underlying f0.type = some (.int .i64)) (h1 : P.underlying f1.type = some (.slice e8)) (he : P.underlying e8 = some (.int .u8)) (hc8 : P.cellsOf e8 = 1)
    (h : DataW.trod enc P w 0 (fun _ => true) held fuel t [v] = some x) : ∃ (a : Option Addr) (cap : Nat) (l : List MSym), v = .slice a l.length cap ∧ Lies w a (symCells l) ∧ (∀ y ∈ l, SymIn w y) ∧ l.length ≤ maxLen := by
  rcases Go.Deep.open_slice ht h with ⟨hcs, hx⟩ | ⟨a, len, cap, m, n, D, Pl, hcs, _, hl, hm, hmm, hx, hcell⟩
  · simp at hcs
    subst hcs
    exact ⟨none, 0, [], rfl, Lies.nil _ _, (fun r hr => by cases hr), by simp⟩
  · simp at hcs hmm
    subst hcs hmm
    rw [hC] at hcell
    have hb' : ∀ i, i < m → ∃ y : MSym, w.cell? ((a.add (i * 2)).add 0) = some (.int .i64 y.id) ∧ w.cell? ((a.add (i * 2)).add 1) = some y.dv ∧ SymIn w y := fun i hi => by
      obtain ⟨cs', e1, e2⟩ := hcell i hi
      obtain ⟨c0, c1, rfl, k0, k1⟩ := cells_two' e1
      obtain ⟨y0, y1, n', _, _, q0, q1⟩ := trod_struct2 hs e2
      obtain ⟨o0, u0⟩ := Go.Deep.hone_of hone 0 f0 rfl
      obtain ⟨o1, u1⟩ := Go.Deep.hone_of hone 1 f1 rfl
      rw [o0, u0] at q0
      rw [o1, u1] at q1
      obtain ⟨id, e3, _, _⟩ := DataW.trod_int h0 q0
      obtain ⟨b, cb, d, g1, g2, g3, g4, _⟩ := open_bytes2 h1 he hc8 (v := c1) (by simpa using q1)
      simp at e3
      subst e3 g1
      exact ⟨⟨id, b, cb, d⟩, k0, k1, g2, g3⟩
    have : Inhabited MSym := ⟨⟨0, none, 0, []⟩⟩
    obtain ⟨B, hB⟩ := Go.Deep.choose_lt hb'
    refine ⟨some a, m, (List.range len).map B, by simp, ?_, ?_, by simp; omega⟩
    · intro k u hu
      have hk : k < 2 * len := by
        obtain ⟨hk, _⟩ := List.getElem?_eq_some_iff.1 hu
        rw [symCells_length] at hk
        simpa using hk
      obtain ⟨g0, g1⟩ := symCells_get (l := (List.range len).map B) (j := k / 2) (by simp; omega)
      simp only [List.getElem_map, List.getElem_range] at g0 g1
      obtain ⟨z0, _, _⟩ := hB 0 (by omega)
      obtain ⟨k0, k1, _⟩ := hB (k / 2) (by omega)
      rw [Go.Deep.add_add] at z0 k0 k1
      rcases Nat.mod_two_eq_zero_or_one k with e | e
      · rw [show 2 * (k / 2) = k by omega, hu] at g0
        rw [show k / 2 * 2 + 0 = k by omega, ← g0] at k0
        exact lies_addr (by simpa using z0) k0
      · rw [show 2 * (k / 2) + 1 = k by omega, hu] at g1
        rw [show k / 2 * 2 + 1 = k by omega, ← g1] at k1
        exact lies_addr (by simpa using z0) k1
    · intro r hr
      obtain ⟨i, hi, rfl⟩ := List.mem_map.1 hr
      exact (hB i (by simp at hi; omega)).2.2
end
end Go.Proofs.YtclbmfjincekfacDoor

/-
  A symbol that came in, opened: an int and a byte slice. Nothing of any program.
-/
namespace Go.Proofs.YtclbmfjincekfacDoor
open Go.ChangeShapes Go.WideShapes Go.ChangeAt Go.RowKit
set_option linter.unusedVariables false

section
variable {H : Type} {enc : TypeId × Value → H} {P : Program} {w : World} {held : Bool}

theorem open_symbol {r : Reach} {b0 : Nat} {t e8 : TypeId} {f0 f1 : Field} {v : Value} {d : DataW H} {p : List MemPlace} (hs : P.underlying t = some (.struct #[f0, f1])) (hone : Go.Deep.oneCellFields P #[f0, f1] = true) (hC : P.cellsOf t = 2)
    (h0 : P.underlying f0.type = some (.int .i64)) (h1 : P.underlying f1.type = some (.slice e8)) (he : P.underlying e8 = some (.int .u8)) (hc8 : P.cellsOf e8 = 1)
    (hv : Value.okWide P w r b0 t v) (h : DataW.Trod enc P w 0 (fun _ => true) held t v d p) : ∃ (id : Int) (a : Option Addr) (cap : Nat) (l : List UInt8), v = .agg #[.int .i64 id, .slice a l.length cap] ∧ I64 id ∧ Lies w a (bs l) ∧ l.length ≤ maxLen ∧ l.length ≤ cap := by
  obtain ⟨c0, c1, y0, y1, m, rfl, rfl, rfl, hy0, hy1⟩ := Go.Joins.open_agg2 hs hone hC hv h
  obtain ⟨a, e0, rfl, wa⟩ := DataW.trod_int h0 hy0
  obtain ⟨a', cap, l, rfl, h2, h3, h4, _⟩ := open_bytes2 h1 he hc8 hy1
  simp at e0
  subst e0
  exact ⟨a, a', cap, l, rfl, i64_of_wf wa, h2, h3, h4⟩
end
end Go.Proofs.YtclbmfjincekfacDoor
