/-
  slices.Grow of nothing and slices.Concat of blocks: the contract of each.
-/
import Derived.Test.YtdeeankioejnkaaCut2
import Derived.Lib.AppendZeros
namespace Go.Proofs.Ytdeeankioejnkaa
open Go.RowKit
set_option linter.unusedVariables false
set_option linter.unusedSimpArgs false

theorem zeroCells_size (z : Value) (n : Nat) : (Builtin.zeroCells #[z] n).size = n := by simp [Builtin.zeroCells]

set_option maxHeartbeats 1000000 in
theorem grow_nil (s : Nat) (w : World) (hs : s ≤ 1048576) :
    Calls Try.prog 40 #[.slice none 0 0, .int .i64 s] w fun e w' => ∃ v, e = .returned v ∧ w'.ownsRow w.heap.size 5 1 v 0 [] ∧ Below w.heap.size w w' := by
  obtain ⟨i0, hi, hz0, hz1, hz2⟩ := info_parts infoU8
  by_cases h0 : s = 0
  · subst h0
    go_enter Try.func40, Try.ntmps40
    go_wp2
    go_ret
    exact ⟨_, rfl, World.ownsRow_nil _ _ _ _, Below.refl _ _⟩
  · have h1 : 0 < s := by omega
    have h2 : (0 : Int) < (s : Int) := by omega
    clear h0
    have hrz : ∀ ty, (Builtin.append_ #[29, 3] ty #[.slice none 0 0, .int .i64 s]).run Try.prog w = .ok (.slice (some ⟨w.heap.size, 0, none⟩) s (grownCap w s 0 5)) (w.drew.alloc (.cells (Builtin.zeroCells #[.int .u8 0] s ++ Builtin.zeroCells #[.int .u8 0] (grownCap w s 0 5 - s)) 5)) := fun ty =>
      Lib.run_append_nil_zeros w 29 3 ty 5 i0 (.int .u8 0) .i64 .i64 Try.underlying29 Try.underlying3 hi hz0 s h1 (by omega) (by omega) (by rw [hz2]; omega)
    have hGn : s ≤ grownCap w s 0 5 := grownCap_ge w _ _ _
    have hG63 := grownCap_le_maxLen w s 0 5 (by unfold maxLen; omega)
    have HR : Hid ((w.drew.alloc (.cells (Builtin.zeroCells #[.int .u8 0] s ++ Builtin.zeroCells #[.int .u8 0] (grownCap w s 0 5 - s)) 5)).ownsRow w.heap.size 5 1 (.slice (some ⟨w.heap.size, 0, none⟩) 0 (grownCap w s 0 5)) 0 []) :=
      ⟨rfl, .inr ⟨w.heap.size, _, _, rfl, Nat.le_refl _, (heap_alloc_eq w.drew _ _).trans (if_pos rfl), Nat.zero_le _, hG63, by simp [zeroCells_size]; omega, rfl⟩⟩
    generalize grownCap w s 0 5 = G at *
    unfold maxLen at hG63
    have hG : (G : Int) ≤ 9223372036854775807 := by omega
    clear hG63
    go_enter Try.func40, Try.ntmps40
    go_wp2_with (at_builtin; refine Lib.wpList_append_run _ rfl _ _ _ _ rfl _ _ rfl rfl _ _ (hrz _) ?_)
    all_goals
      go_ret
      exact ⟨_, rfl, HR.out, (Below.refl _ _).drew.alloc (Nat.le_refl _) _⟩

theorem storeCells_nil {P : Program} (w : World) (a : Addr) (i : Nat) : (storeCells a [] i).run P w = .ok () w := rfl

/-- append of a slice that has nothing -/
theorem run_append_nothing {P : Program} (w : World) (t ty e : TypeId) (i : TypeInfo) (ht : P.underlying t = some (.slice e)) (hi : P.info? e = some i) (base : Option Addr) (n cap c : Nat) (h : n ≤ cap) :
    (Builtin.append_ #[t, t] ty #[.slice base n cap, .slice none 0 c]).run P w = .ok (.slice base n cap) w := by
  cases base with
  | none => simp [Builtin.append_, run_underlying ht, sizeOf, typeInfo, hi, Builtin.lenOf, Builtin.firstCells, h]
  | some a => simp [Builtin.append_, run_underlying ht, sizeOf, typeInfo, hi, Builtin.lenOf, Builtin.firstCells, h, storeCells_nil]

/-- how many bytes the first m have -/
def totTo (bl : List Blk) (m : Nat) : Nat := (((bl.map Blk.l).take m).flatten).length

theorem totTo_succ {bl : List Blk} {m : Nat} (h : m < bl.length) : totTo bl (m + 1) = totTo bl m + bl[m].l.length := by
  unfold totTo
  rw [List.take_succ_eq_append_getElem (by simpa using h)]
  simp

theorem totTo_le (bl : List Blk) (m : Nat) : totTo bl m ≤ ((bl.map Blk.l).flatten).length := by
  unfold totTo
  have h := congrArg (fun l => l.flatten.length) (List.take_append_drop m (bl.map Blk.l))
  simp only [List.flatten_append, List.length_append] at h
  omega

theorem concat_step {w wr w1 : World} {v v' : Value} {bl : List Blk} {m : Nat} (hlt : m < bl.length) (hb : Below w.heap.size w wr) (ho : wr.ownsRow w.heap.size 5 1 v (totTo bl m) (bs ((bl.map Blk.l).take m).flatten))
    (ho' : w1.ownsRow w.heap.size 5 1 v' (totTo bl m + bl[m].l.length) (bs ((bl.map Blk.l).take m).flatten ++ bs bl[m].l)) (hg : wr.grownBy w1 v.ownBlock) :
    w1.ownsRow w.heap.size 5 1 v' (totTo bl (m + 1)) (bs ((bl.map Blk.l).take (m + 1)).flatten) ∧ Below w.heap.size w w1 := by
  refine ⟨?_, hb.grown hg hb.size fun g hg' => (ho.lt g hg').1⟩
  rw [totTo_succ hlt, List.take_succ_eq_append_getElem (by simpa using hlt)]
  simpa [bs] using ho'

theorem lies_none {w : World} {l : List UInt8} (h : Lies w none (bs l)) : l = [] := by
  cases l with
  | nil => rfl
  | cons x r =>
    obtain ⟨_, _, e, _⟩ := h 0 _ (by simp [bs]; rfl)
    simp at e

theorem lies_add {w : World} {ad : Addr} {l : List UInt8} (h : Lies w (some ad) (bs l)) : ∀ j u, (bs l)[j]? = some u → w.cell? (ad.add j) = some u := by
  intro j u hu
  obtain ⟨b, o, e, hc⟩ := h j u hu
  simp at e
  subst e
  simpa [Addr.add_lit] using hc

theorem own_slice {w : World} {B : Nat} {e : TypeId} {v : Value} {n : Nat} {xs : List Value} (h : w.ownsRow B e 1 v n xs) : ∃ p q, v = .slice p n q ∧ n ≤ q := by
  rcases h.2 with ⟨rfl, h0⟩ | ⟨g, cap, cur, rfl, hb, hg, hnc, hcm, hcs, htake⟩
  · subst h0
    exact ⟨none, 0, rfl, Nat.le_refl _⟩
  · exact ⟨_, _, rfl, hnc⟩

theorem own_none {w : World} {B : Nat} {e : TypeId} {n q : Nat} {xs : List Value} (h : w.ownsRow B e 1 (.slice none n q) n xs) : q = 0 := by
  rcases h.2 with ⟨e1, h0⟩ | ⟨g, cap, cur, e1, hb, hg, hnc, hcm, hcs, htake⟩
  · simp at e1
    exact e1.2
  · simp at e1

set_option maxHeartbeats 1000000 in
theorem concat_any (a : Option Addr) (cap : Nat) (bl : List Blk) (w : World) (hn : bl.length ≤ maxLen) (htot : ((bl.map Blk.l).flatten).length ≤ 1048576) (ha : Lies w a (bl.map Blk.val)) (hall : AllIn w bl) :
    Calls Try.prog 39 #[.slice a bl.length cap] w fun e w' => ∃ v, e = .returned v ∧ w'.ownsRow w.heap.size 5 1 v ((bl.map Blk.l).flatten).length (bs (bl.map Blk.l).flatten) ∧ Below w.heap.size w w' := by
  obtain ⟨i0, hi, hz0, hz1, hz2⟩ := info_parts infoU8
  have HT : Hid (((bl.map Blk.l).flatten).length ≤ 1048576) := htot
  unfold maxLen at hn
  clear htot
  go_enter Try.func39, Try.ntmps39
  go_wp2
  go_loop [3, 11] (fun c i => ∃ m : Nat, m ≤ bl.length ∧ i = .int .i64 m ∧ c = .int .i64 (totTo bl m)) (fun _ i => bl.length - (intOf i).toNat)
  case atStart => exact ⟨0, Nat.zero_le _, rfl, rfl⟩
  case round =>
    obtain ⟨m, hm, rfl, rfl⟩ := hrel
    by_cases hlt : m < bl.length
    · obtain ⟨b1, o1, rfl⟩ := ha.some (k := m) (by simpa using hlt)
      have h1 : w.cell? ⟨b1, o1 + m, none⟩ = some (.slice bl[m].a bl[m].l.length bl[m].cap) := ha.at (by simp [hlt, Blk.val])
      have hs := totTo_succ hlt
      have hle := totTo_le bl (m + 1)
      have := HT.out
      have hb1 : totTo bl m ≤ 1048576 := by omega
      have hb2 : bl[m].l.length ≤ 1048576 := by omega
      have HS : Hid (totTo bl (m + 1) = totTo bl m + bl[m].l.length) := hs
      clear hs hle this
      go_wp2
      go_round
      case rel => exact ⟨m + 1, by omega, by go_num, congrArg (Value.int .i64) (by rw [HS.out]; simp)⟩
      case measure => simp [intOf]; omega
    · have HM : Hid (m = bl.length) := by have : m = bl.length := by omega
                                          exact this
      have hle := totTo_le bl m
      have := HT.out
      have hb1 : totTo bl m ≤ 1048576 := by omega
      clear hle this
      go_wp2_with fail
      refine (grow_nil _ _ hb1).mono ?_
      rintro e w1 ⟨v1, rfl, ho1, hb⟩
      clear hb1
      go_wp2
      go_loopw [6, 27] (fun v i wr => ∃ m : Nat, m ≤ bl.length ∧ i = .int .i64 m ∧ wr.ownsRow w.heap.size 5 1 v (totTo bl m) (bs ((bl.map Blk.l).take m).flatten) ∧ Below w.heap.size w wr) (fun _ i _ => bl.length - (intOf i).toNat)
      case atStart => exact ⟨0, Nat.zero_le _, rfl, ho1, hb⟩
      case round =>
        clear ho1 hb
        obtain ⟨m, hm, rfl, hown, hbw⟩ := hrel
        by_cases hlt : m < bl.length
        · obtain ⟨b1, o1, rfl⟩ := ha.some (k := m) (by simpa using hlt)
          have h1 : wr.cell? ⟨b1, o1 + m, none⟩ = some (.slice bl[m].a bl[m].l.length bl[m].cap) := (ha.below hbw (Nat.le_refl _)).at (by simp [hlt, Blk.val])
          have hla := (hall bl[m] (by simp)).1.below hbw (Nat.le_refl _)
          have hsz := hbw.size
          have hs := totTo_succ hlt
          have hle := totTo_le bl (m + 1)
          have := HT.out
          have hb1 : totTo bl m + bl[m].l.length ≤ 1048576 := by omega
          have HS : Hid (totTo bl (m + 1) = totTo bl m + bl[m].l.length) := hs
          clear hs hle this
          cases had : bl[m].a with
          | none =>
            rw [had] at h1 hla
            have HE : Hid (bl[m].l = []) := lies_none hla
            have h0 : bl[m].l.length = 0 := by rw [HE.out]; rfl
            rw [h0] at h1
            obtain ⟨p6, q6, rfl, hq6⟩ := own_slice hown
            have hq : p6 = none → q6 = 0 := fun e => by subst e; exact own_none hown
            have R : Hid (wr.ownsRow w.heap.size 5 1 (.slice p6 (totTo bl m) q6) (totTo bl (m + 1)) (bs ((bl.map Blk.l).take (m + 1)).flatten)) := by
              show wr.ownsRow w.heap.size 5 1 (.slice p6 (totTo bl m) q6) (totTo bl (m + 1)) (bs ((bl.map Blk.l).take (m + 1)).flatten)
              rw [HS.out, List.take_succ_eq_append_getElem (by simpa using hlt)]
              simpa [h0, HE.out] using hown
            clear had hla h0 hown hb1
            go_wp2_with (first | (at_builtin; refine Lib.wpList_append_run _ rfl _ _ _ _ rfl _ _ rfl rfl _ _ (run_append_nothing _ _ _ 5 i0 Try.underlying29 hi _ _ _ _ hq6) ?_) | go_in)
            go_roundw
            case rel => exact ⟨m + 1, by omega, by go_num, R.out, hbw⟩
            case measure => simp [intOf]; omega
          | some ad =>
            rw [had] at h1 hla
            clear had
            go_wp2_with (first | (at_builtin; refine wpList_append_own _ rfl _ _ 29 rfl w.heap.size 5 i0 (.int .u8 0) 1 1 Try.underlying29 hi hz0 hz1 hz2 rfl (by decide) _ _ _ rfl hown ad bl[m].l.length bl[m].cap (bs bl[m].l) rfl ?c0 ?c1 ?c2 ?c3 ?c4 ?c5 ?_) | go_in)
            case c0 => simp [bs_length]
            case c1 => exact lies_add hla
            case c2 =>
              intro u hu
              obtain ⟨x, _, rfl⟩ := List.mem_map.1 hu
              rfl
            case c3 => unfold maxLen; omega
            case c4 => omega
            case c5 => omega
            intro v' w1 hown' hgrow _
            have R := concat_step hlt hbw hown hown' hgrow
            clear hown' hgrow hown hbw h1 hla
            go_wp2
            go_roundw
            case rel => exact ⟨m + 1, by omega, by go_num, R.1, R.2⟩
            case measure => simp [intOf]; omega
        · have HK : Hid (m = bl.length) := by have : m = bl.length := by omega
                                              exact this
          go_wp2
          go_ret
          refine ⟨_, rfl, ?_, hbw⟩
          have hk := HK.out
          subst hk
          unfold totTo at hown
          rwa [List.take_of_length_le (by simp)] at hown

end Go.Proofs.Ytdeeankioejnkaa
