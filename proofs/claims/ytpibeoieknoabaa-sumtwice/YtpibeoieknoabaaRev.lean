/-
  'at' of the statements; slices.Reverse and slices.Delete at slices of blocks: the contract of each.
-/
import Derived.Test.YtpibeoieknoabaaSum2
import Derived.RegionTactic
import Derived.BigRegion
import Derived.Deep.RegionLaw
namespace Go.Proofs.Ytpibeoieknoabaa
open Go.RowKit
set_option linter.unusedVariables false
set_option linter.unusedSimpArgs false

/-- a number brought among so many -/
def atN (k n : Int) : Int := if k.tmod n < 0 then k.tmod n + n else k.tmod n

theorem atN_lt (k : Int) {n : Int} (h : 0 < n) : 0 ≤ atN k n ∧ atN k n < n := by
  unfold atN
  have h1 := Int.tmod_lt_of_pos k h
  have h2 := Int.lt_tmod_of_pos k h
  split <;> omega

theorem at_any (k n : Int) (w : World) (hk : -9223372036854775808 ≤ k ∧ k ≤ 9223372036854775807) (hn : 0 < n) (hn2 : n ≤ 9223372036854775807) :
    Calls Try.prog 16 #[.int .i64 k, .int .i64 n] w fun e w' => e = .returned (.int .i64 (atN k n)) ∧ w = w' := by
  obtain ⟨hk1, hk2⟩ := hk
  have h1 := Int.tmod_lt_of_pos k hn
  have h2 := Int.lt_tmod_of_pos k hn
  have hn0 : (n == 0) = false := by rw [beq_eq_false_iff_ne]; omega
  have HA : Hid (atN k n = if k.tmod n < 0 then k.tmod n + n else k.tmod n) := rfl
  go_enter Try.func16, Try.ntmps16
  go_wp2
  · go_ret
    exact ⟨ret_int (by rw [HA.out, if_pos (by assumption)]), rfl⟩
  · go_ret
    exact ⟨ret_int (by rw [HA.out, if_neg (by omega)]), rfl⟩

/-- the first k and the last k have changed places -/
def revK (n : Nat) (f : Nat → Value) (k i : Nat) : Value := if i < n ∧ (i < k ∨ n < i + 1 + k) then f (n - 1 - i) else f i

theorem revK_step {n k : Nat} {f : Nat → Value} (h : k + 1 + k < n) (i : Nat) :
    (if i = n - 1 - k then f k else if i = k then f (n - 1 - k) else revK n f k i) = revK n f (k + 1) i := by
  unfold revK
  by_cases h1 : i = n - 1 - k
  · subst h1
    rw [if_pos rfl, if_pos (by omega)]
    congr 1
    omega
  · rw [if_neg h1]
    by_cases h2 : i = k
    · subst h2
      rw [if_pos rfl, if_pos (by omega)]
    · rw [if_neg h2]
      by_cases h3 : i < n ∧ (i < k ∨ n < i + 1 + k)
      · rw [if_pos h3, if_pos (by omega)]
      · rw [if_neg h3, if_neg (by omega)]

theorem revK_end {n k : Nat} {f : Nat → Value} (h : ¬ k + 1 + k < n) (i : Nat) : revK n f k i = if i < n then f (n - 1 - i) else f i := by
  unfold revK
  by_cases h1 : i < n
  · rw [if_pos h1]
    by_cases h2 : i < k ∨ n < i + 1 + k
    · rw [if_pos ⟨h1, h2⟩]
    · rw [if_neg (by omega)]
      congr 1
      omega
  · rw [if_neg h1, if_neg (by omega)]

theorem grown_drew {a b : World} {row : Option Nat} (h : a.grownBy b row) : a.grownBy b.drew row := ⟨h.os, h.tape, h.output, h.size, h.block⟩

set_option maxHeartbeats 400000 in
theorem reverse_any (g n cap : Nat) (f : Nat → Value) (w : World) (hn : n ≤ cap) (hc : cap ≤ maxLen) (hr : w.rowIs g 29 cap f) (hsl : ∀ i, i < n → ∃ a l c, f i = .slice a l c) :
    Calls Try.prog 17 #[.slice (some ⟨g, 0, none⟩) n cap] w fun e w' => e = .returned (.tuple #[]) ∧ w'.rowIs g 29 cap (fun i => if i < n then f (n - 1 - i) else f i) ∧ w.grownBy w' (some g) := by
  unfold maxLen at hc
  have HS : Hid (∀ i, i < n → ∃ a l c, f i = .slice a l c) := hsl
  clear hsl
  go_enter Try.func17, Try.ntmps17
  go_wp2
  go_loopw [2, 3] (fun i j wr => ∃ k : Nat, k ≤ n ∧ i = .int .i64 k ∧ j = .int .i64 ((n : Int) - 1 - k) ∧ wr.rowIs g 29 cap (revK n f k) ∧ w.grownBy wr (some g)) (fun i _ _ => n - (intOf i).toNat)
  case atStart => exact ⟨0, Nat.zero_le _, rfl, by simp, hr.congr (fun i _ => by simp [revK]; intro h1 h2; omega), grown_refl _ _⟩
  case round =>
    obtain ⟨k, hk, rfl, rfl, hrow, hgr⟩ := hrel
    by_cases hlt : (k : Int) < (n : Int) - 1 - k
    · have hkn : k < n := by omega
      have hj : ((n : Int) - 1 - k).toNat = n - 1 - k := by omega
      have hj0 : (0 : Int) ≤ (n : Int) - 1 - k := by omega
      have hjn : (n : Int) - 1 - k < n := by omega
      obtain ⟨a1, l1, c1, e1⟩ := HS.out k (by omega)
      obtain ⟨a2, l2, c2, e2⟩ := HS.out (n - 1 - k) (by omega)
      have hne : k ≠ n - 1 - k := by omega
      have h1 : wr.cell? ⟨g, k, none⟩ = some (.slice a1 l1 c1) := by rw [hrow.cell (by omega), ← e1]; simp [revK]; intro h1 h2; omega
      have h2 : wr.cell? ⟨g, n - 1 - k, none⟩ = some (.slice a2 l2 c2) := by rw [hrow.cell (by omega), ← e2]; simp [revK]; intro h1 h2; omega
      have h3 : wr.frozen? ⟨g, k, none⟩ = false := hrow.frozen k
      have h4 : wr.frozen? ⟨g, n - 1 - k, none⟩ = false := hrow.frozen _
      have R : (((wr.setCell ⟨g, k, none⟩ (.slice a2 l2 c2)).setCell ⟨g, n - 1 - k, none⟩ (.slice a1 l1 c1))).rowIs g 29 cap (revK n f (k + 1)) := by
        refine ((hrow.set k _).set (n - 1 - k) _).congr fun i hi => ?_
        rw [← revK_step (by omega) i, e1, e2]
      have HR : Hid ((((wr.setCell ⟨g, k, none⟩ (.slice a2 l2 c2)).setCell ⟨g, n - 1 - k, none⟩ (.slice a1 l1 c1))).rowIs g 29 cap (revK n f (k + 1))) := R
      clear R e1 e2 hrow hr
      go_wp2
      go_region
      all_goals go_wp2
      all_goals go_roundw
      case rel => exact ⟨k + 1, by omega, by go_num, by go_num, HR.out, grown_drew (grown_trans hgr (grown_trans (grown_setCell _ _ _ _) (grown_setCell _ _ _ _)))⟩
      case measure => simp [intOf]; omega
    · clear hr
      go_wp2
      go_end0
      exact ⟨rfl, hrow.congr (fun i _ => revK_end (by omega) i), hgr⟩

theorem rowIs_setCells {e : TypeId} {g cap : Nat} : ∀ (vs : List Value) (k : Nat) (f : Nat → Value) (w : World), w.rowIs g e cap f → (w.setCells g k vs).rowIs g e cap (fun j => if k ≤ j ∧ j < k + vs.length then vs[j - k]?.getD (f j) else f j)
  | [], k, f, w, h => by
    refine h.congr fun j hj => ?_
    rw [if_neg (by simp)]
  | v :: r, k, f, w, h => by
    refine (rowIs_setCells r (k + 1) _ _ (h.set k v)).congr fun j hj => ?_
    simp only [List.length_cons]
    by_cases h1 : k + 1 ≤ j ∧ j < k + 1 + r.length
    · have e : j - k = (j - (k + 1)) + 1 := by omega
      rw [if_pos h1, if_neg (show ¬ j = k by omega), if_pos (by omega), e]
      simp
    · rw [if_neg h1]
      by_cases h2 : j = k
      · subst h2
        rw [if_pos rfl, if_pos (by omega)]
        simp
      · rw [if_neg h2, if_neg (by omega)]

theorem grown_setCells (g : Nat) : ∀ (vs : List Value) (k : Nat) (w : World), w.grownBy (w.setCells g k vs) (some g)
  | [], _, w => grown_refl _ _
  | v :: r, k, w => grown_trans (grown_setCell w g k v) (grown_setCells g r (k + 1) _)

theorem run_clear_one {w : World} {g o c : Nat} (hc : (w.cell? ⟨g, o, none⟩).isSome = true) (hf : w.frozen? ⟨g, o, none⟩ = false) :
    (Builtin.clear_ #[32] 0 #[.slice (some ⟨g, o, none⟩) 1 c]).run Try.prog w = .ok (.tuple #[]) (w.setCell ⟨g, o, none⟩ (.slice none 0 0)) := by
  obtain ⟨i0, hin, hz0, hz1, hz2⟩ := info_parts infoBlk
  have h := run_storeCells_cells (P := Try.prog) g o [.slice none 0 0] 0 w (fun j hj => by simp at hj; subst hj; simpa using hc) (fun j hj => by simp at hj; subst hj; simpa using hf) (fun v hv => by simp at hv; subst hv; rfl)
  simp only [Nat.add_zero] at h
  have hz : (Builtin.zeroCells (Value.slice none 0 0).cells 1).toList = [.slice none 0 0] := by simp [Builtin.zeroCells, Value.cells]
  simp [Builtin.clear_, run_underlying Try.underlying32, zeroValue, typeInfo, hin, hz0, hz, h, Sem.run_pure, World.setCells]

set_option maxHeartbeats 400000 in
theorem delete_any (g n m cap i : Nat) (f : Nat → Value) (w : World) (hnm : n = i + 1 + m) (hn : n ≤ cap) (hc : cap ≤ maxLen) (hr : w.rowIs g 29 cap f) (hsl : ∀ i, i < n → ∃ a l c, f i = .slice a l c) :
    Calls Try.prog 18 #[.slice (some ⟨g, 0, none⟩) n cap, .int .i64 (i : Int), .int .i64 ((i : Int) + 1)] w fun e w' => e = .returned (.slice (some ⟨g, 0, none⟩) (i + m) cap) ∧ (∃ f', w'.rowIs g 29 cap f' ∧ ∀ j, j < i + m → f' j = if j < i then f j else f (j + 1)) ∧ w.grownBy w' (some g) := by
  unfold maxLen at hc
  have he : ((i : Int) == (i : Int) + 1) = false := by rw [beq_eq_false_iff_ne]; omega
  obtain ⟨i0, hin, hz0, hz1, hz2⟩ := info_parts infoBlk
  obtain ⟨ad, hA, hnews⟩ : ∃ ad : Addr, (if cap = i + 1 then some (⟨g, 0, none⟩ : Addr) else some ⟨g, i + 1, none⟩) = some ad ∧ ∀ j u, ((List.range m).map fun j => f (i + 1 + j))[j]? = some u → w.cell? (ad.add j) = some u := by
    by_cases e : cap = i + 1
    · rw [if_pos e]
      refine ⟨_, rfl, fun j u hu => ?_⟩
      have : m = 0 := by omega
      rw [this] at hu
      simp at hu
    · rw [if_neg e]
      refine ⟨_, rfl, fun j u hu => ?_⟩
      obtain ⟨hj, hu⟩ := List.getElem?_eq_some_iff.1 hu
      simp at hj hu
      rw [Addr.add_lit, ← hu]
      exact hr.cell (by omega)
  have HN : Hid (∀ j u, ((List.range m).map fun j => f (i + 1 + j))[j]? = some u → w.cell? (ad.add j) = some u) := hnews
  have s1 : Hid (((List.range m).map fun j => f (i + 1 + j)).length = m * 1) := by show _ = _; simp
  have s2 : Hid (∀ u ∈ ((List.range m).map fun j => f (i + 1 + j)), u.oneCell' = true) := by
    intro u hu
    simp at hu
    obtain ⟨j, hj, rfl⟩ := hu
    obtain ⟨a, l, c, e⟩ := hsl (i + 1 + j) (by omega)
    rw [e]; rfl
  have s3 : Hid (∀ j, j < ((List.range m).map fun j => f (i + 1 + j)).length → (w.cell? ⟨g, 0 + i * 1 + j, none⟩).isSome = true ∧ w.frozen? ⟨g, 0 + i * 1 + j, none⟩ = false) := by
    intro j hj
    simp at hj
    rw [show 0 + i * 1 + j = i + j by omega, hr.cell (by omega)]
    exact ⟨rfl, hr.frozen _⟩
  have hrow := rowIs_setCells ((List.range m).map fun j => f (i + 1 + j)) i f w.drew hr.drew
  have hgr : w.grownBy (w.drew.setCells g i ((List.range m).map fun j => f (i + 1 + j))) (some g) := grown_trans (grown_drew (grown_refl _ _)) (grown_setCells _ _ _ _)
  have hf' : ∀ j, j < i + m → (fun j => if i ≤ j ∧ j < i + ((List.range m).map fun j => f (i + 1 + j)).length then ((List.range m).map fun j => f (i + 1 + j))[j - i]?.getD (f j) else f j) j = if j < i then f j else f (j + 1) := by
    intro j hj
    simp only [List.length_map, List.length_range]
    by_cases h1 : j < i
    · rw [if_pos h1, if_neg (by omega)]
    · rw [if_neg h1, if_pos (by omega)]
      have : j - i < m := by omega
      simp [this]
      congr 1
      omega
  clear hnews hsl
  have HR : Hid ((w.drew.setCells g i ((List.range m).map fun j => f (i + 1 + j))).rowIs g 29 cap (fun j => if i ≤ j ∧ j < i + ((List.range m).map fun j => f (i + 1 + j)).length then ((List.range m).map fun j => f (i + 1 + j))[j - i]?.getD (f j) else f j)) := hrow
  have HG : Hid (w.grownBy (w.drew.setCells g i ((List.range m).map fun j => f (i + 1 + j))) (some g)) := hgr
  have HF : Hid (∀ j, j < i + m → (fun j => if i ≤ j ∧ j < i + ((List.range m).map fun j => f (i + 1 + j)).length then ((List.range m).map fun j => f (i + 1 + j))[j - i]?.getD (f j) else f j) j = if j < i then f j else f (j + 1)) := hf'
  have hcl := run_clear_one (c := cap - (i + m)) (w := w.drew.setCells g i ((List.range m).map fun j => f (i + 1 + j))) (g := g) (o := i + m) (by rw [hrow.cell (by omega)]; rfl) (hrow.frozen _)
  have HCL : Hid ((Builtin.clear_ #[32] 0 #[.slice (some ⟨g, i + m, none⟩) 1 (cap - (i + m))]).run Try.prog (w.drew.setCells g i ((List.range m).map fun j => f (i + 1 + j))) = .ok (.tuple #[]) ((w.drew.setCells g i ((List.range m).map fun j => f (i + 1 + j))).setCell ⟨g, i + m, none⟩ (.slice none 0 0))) := hcl
  clear hrow hgr hf' hcl hr
  have hk1 : ((i : Int) + 1).toNat = i + 1 := by omega
  have hk2 : (i : Int) ≤ (cap : Int) := by omega
  have hk3 : i ≤ cap := by omega
  have hk4 : i + 1 ≤ n := by omega
  have hk5 : (i : Int) + 1 ≤ (n : Int) := by omega
  have hk6 : i ≤ n := by omega
  have hk7 : ¬ (i : Int) + 1 < 0 := by omega
  have hk8 : ¬ (cap : Int) < (i : Int) := by omega
  have hk9 : ¬ (n : Int) < (i : Int) + 1 := by omega
  have hk10 : n - (i + 1) = m := by omega
  have hk11 : n - (i + m) = 1 := by omega
  have hk12 : (i : Int) + (m : Int) ≤ (n : Int) := by omega
  have hk13 : i + m ≤ n := by omega
  have hk14 : ((i : Int) + (m : Int)).toNat = i + m := by omega
  have hk15 : cap ≠ i + m := by omega
  clear hnm
  go_enter Try.func18, Try.ntmps18
  go_wp2
  go_region_law (refine step_append_room rfl (.tmp 22) (.tmp 25) 32 rfl 29 i0 1 Try.underlying32 hin hz1 g 0 i cap (by simp [Act.eval, Act.put]) ad m (cap - (i + 1)) _ (by simp [Act.eval, Act.put]) s1.out HN.out s2.out (by omega) s3.out ?_)
  have hcl := HCL.out
  go_wp2
  go_ret
  exact ⟨rfl, ⟨_, HR.out.set (i + m) _, fun j hj => by
    show (if j = i + m then _ else _) = _
    rw [if_neg (by omega)]
    exact HF.out j hj⟩, grown_trans HG.out (grown_setCell _ _ _ _)⟩

theorem own_row {w : World} {B : Nat} {e : TypeId} {v : Value} {n : Nat} {xs : List Value} (h : w.ownsRow B e 1 v n xs) (hn : 0 < n) :
    ∃ g cap f, v = .slice (some ⟨g, 0, none⟩) n cap ∧ B ≤ g ∧ w.rowIs g e cap f ∧ n ≤ cap ∧ cap ≤ maxLen ∧ ∀ i (hi : i < xs.length), f i = xs[i] := by
  rcases h.2 with ⟨rfl, h0⟩ | ⟨g, cap, cur, rfl, hb, hg, hnc, hcm, hcs, htake⟩
  · omega
  · refine ⟨g, cap, fun i => cur[i]?.getD undef, rfl, hb, ⟨cur, hg, by omega, fun i hi => by simp [show i < cur.size by omega]⟩, hnc, hcm, fun i hi => ?_⟩
    have h2 : xs[i]? = cur.toList[i]? := by
      rw [← htake, List.getElem?_take, if_pos (by have := h.1; omega)]
    simp at h2
    show cur[i]?.getD undef = xs[i]
    rw [← h2]
    simp [hi]

theorem row_lies' {w : World} {g cap : Nat} {e : TypeId} {f : Nat → Value} (h : w.rowIs g e cap f) (xs : List Value) (hn : xs.length ≤ cap) (hx : ∀ i (hi : i < xs.length), f i = xs[i]) : Lies w (some ⟨g, 0, none⟩) xs := by
  refine Lies.mk fun k hk => ?_
  rw [Nat.zero_add, h.cell (by omega), hx k hk]

end Go.Proofs.Ytpibeoieknoabaa
