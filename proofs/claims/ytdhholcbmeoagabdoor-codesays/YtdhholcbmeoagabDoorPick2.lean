/-
  pick.Of: its contract.
-/
import Derived.Test.YtdhholcbmeoagabDoorPick1
namespace Go.Proofs.YtdhholcbmeoagabDoor
open Go.RowKit
set_option linter.unusedVariables false
set_option linter.unusedSimpArgs false

/-- what is wrong with a symbol's number, and a number of blocks -/
def OutOf (id b : Int) : Prop := id < 0 ∨ 9999 < id ∨ b < 1 ∨ 24 < b

instance (id b : Int) : Decidable (OutOf id b) := by unfold OutOf; infer_instance

/-- the cells of the answer -/
def inAt (l : List Nat) (k : Nat) : Value := .bool (decide (k ∈ l))

theorem infoB : (Tryd.prog.info? 4).map (fun i => (i.zero, i.size, i.bytes)) = some (some (.bool false), 1, 1) := by kernel_rfl

theorem of_bad (id b : Int) (w : World) (h : OutOf id b) :
    Calls Tryd.prog 7 #[.int .i64 id, .int .i64 b] w fun e w' => e = .returned (.tuple #[.slice none 0 0, .int .i64 3]) ∧ w = w' := by
  have h1 : id < 0 ∨ 0 ≤ id := by omega
  have h2 : 9999 < id ∨ id ≤ 9999 := by omega
  have h3 : b < 1 ∨ 1 ≤ b := by omega
  unfold OutOf at h
  rcases h1 with h1 | h1
  · clear h h2 h3
    go_enter Tryd.func7, Tryd.ntmps7
    go_wp2
    go_ret2
    exact ⟨rfl, rfl⟩
  rcases h2 with h2 | h2
  · clear h h3
    go_enter Tryd.func7, Tryd.ntmps7
    go_wp2
    go_ret2
    exact ⟨rfl, rfl⟩
  rcases h3 with h3 | h3
  · clear h
    go_enter Tryd.func7, Tryd.ntmps7
    go_wp2
    go_ret2
    exact ⟨rfl, rfl⟩
  have h4 : 24 < b := by omega
  clear h
  go_enter Tryd.func7, Tryd.ntmps7
  go_wp2
  go_ret2
  exact ⟨rfl, rfl⟩

theorem inAt_none (k : Nat) : inAt [] k = .bool false := by simp [inAt]

theorem madeAt {b i : Nat} (h : i < b) : (madeCells #[Value.bool false] b)[i]? = some (.bool false) := by simp [madeCells, h, Nat.mod_one]

theorem row_one {w : World} {b i : Nat} {t : TypeId} (h : i < b) : (w.alloc (.cells ((madeCells #[Value.bool false] b).setIfInBounds i (.bool true)) t)).rowIs w.heap.size t b (inAt [i]) := by
  refine ⟨_, by rw [heap_alloc_eq, if_pos rfl], by simp [size_madeCells], fun j hj => ?_⟩
  rw [Array.getElem?_setIfInBounds]
  by_cases e : i = j
  · subst e
    rw [if_pos rfl, if_pos (by simpa [size_madeCells] using hj)]
    simp [inAt]
  · rw [if_neg e, madeAt hj]
    simp [inAt, show ¬ j = i from fun h => e h.symm]

theorem of_low (i b : Nat) (w : World) (hi : i ≤ 9999) (h1 : 1 ≤ b) (hb : b ≤ 24) (hlt : i < b) :
    Calls Tryd.prog 7 #[.int .i64 i, .int .i64 b] w fun e w' => ∃ g, e = .returned (.tuple #[.slice (some ⟨g, 0, none⟩) b b, .int .i64 0]) ∧ w.heap.size ≤ g ∧ w'.rowIs g 4 b (inAt (chosen b i)) ∧ Below w.heap.size w w' := by
  have hmk := run_make_row' (P := Tryd.prog) 22 4 (.bool false) 1 Tryd.underlying22 infoB rfl .i64 .i64 b (by omega) (by omega)
  have hat := madeAt hlt
  go_enter Tryd.func7, Tryd.ntmps7
  go_wp2
  go_ret2
  exact ⟨_, rfl, Nat.le_refl _, by rw [chosen_low hlt]; exact row_one hlt, (Below.refl _ _).alloc (Nat.le_refl _) _⟩

/-- the loop's state after n steps -/
def OfInv (w wr : World) (g b x0 n : Nat) : Prop := wr.rowIs g 4 b (inAt (coll b x0 n)) ∧ Below w.heap.size w wr ∧ g < wr.heap.size

/-- a step that brings nothing new -/
theorem step_old {b x0 n x y k m mi : Nat} (hb : b ≤ 24) (HM1 : Shut (m ≤ b)) (HN : Shut ((coll b x0 n).length < m)) (HXE : Shut (it n x0 = x)) (HME : Shut (m - (coll b x0 n).length = mi)) (HY : Shut (nx x = y)) (HK : Shut (y / 7 % b = k)) (HIN : Shut (k ∈ coll b x0 n)) :
    coll b x0 (n + 1) = coll b x0 n ∧ it (n + 1) x0 = y ∧ toGo b x0 m mi y < toGo b x0 m mi x := by
  have h : newOne b (coll b x0 n) (nx (it n x0)) = false := by
    simp only [newOne, blkOf]
    rw [HXE.out, HY.out, HK.out]
    simpa using HIN.out
  refine ⟨coll_old h, by rw [it_next, HXE.out, HY.out], ?_⟩
  have := toGo_old hb HM1.out HN.out h
  rwa [HXE.out, HY.out, HME.out] at this

/-- a step that brings a new block -/
theorem step_new {b x0 n x y k m mi : Nat} (HN : Shut ((coll b x0 n).length < m)) (HXE : Shut (it n x0 = x)) (HME : Shut (m - (coll b x0 n).length = mi)) (HY : Shut (nx x = y)) (HK : Shut (y / 7 % b = k)) (HIN : Shut (¬ k ∈ coll b x0 n)) :
    coll b x0 (n + 1) = coll b x0 n ++ [k] ∧ it (n + 1) x0 = y ∧ toGo b x0 m (mi - 1) y < toGo b x0 m mi x := by
  have h : newOne b (coll b x0 n) (nx (it n x0)) = true := by
    simp only [newOne, blkOf]
    rw [HXE.out, HY.out, HK.out]
    simpa using HIN.out
  refine ⟨?_, by rw [it_next, HXE.out, HY.out], ?_⟩
  · rw [coll_new h, blkOf, HXE.out, HY.out, HK.out]
  · have := toGo_new (b := b) HN.out y
    rw [HXE.out, HME.out, show m - ((coll b x0 n).length + 1) = mi - 1 by have := HME.out; omega] at this
    exact this

theorem row_set {w : World} {g b k : Nat} {t : TypeId} {l : List Nat} (h : w.rowIs g t b (inAt l)) : (w.setCell ⟨g, k, none⟩ (.bool true)).rowIs g t b (inAt (l ++ [k])) := by
  refine (h.set k _).congr fun j hj => ?_
  by_cases e : j = k
  · subst e; simp [inAt]
  · rw [if_neg e]; simp [inAt, e]

set_option maxHeartbeats 400000 in
theorem of_high (i b : Nat) (w : World) (hi : i ≤ 9999) (h1 : 1 ≤ b) (hb : b ≤ 24) (hge : b ≤ i) (hL : Laid w) :
    Calls Tryd.prog 7 #[.int .i64 i, .int .i64 b] w fun e w' => ∃ g, e = .returned (.tuple #[.slice (some ⟨g, 0, none⟩) b b, .int .i64 0]) ∧ w.heap.size ≤ g ∧ w'.rowIs g 4 b (inAt (chosen b i)) ∧ Below w.heap.size w w' := by
  have hmk := run_make_row' (P := Tryd.prog) 22 4 (.bool false) 1 Tryd.underlying22 infoB rfl .i64 .i64 b (by omega) (by omega)
  have H0 : Shut (OfInv w (w.alloc (.cells (madeCells #[.bool false] b) 4)) w.heap.size b (nx i) 0) :=
    ⟨(World.rowIs_made w _ b _).congr fun j hj => (inAt_none j).symm, (Below.refl _ _).alloc (Nat.le_refl _) _, by simp⟩
  have HL1 : Shut (Laid (w.alloc (.cells (madeCells #[.bool false] b) 4))) := ⟨hL.below ((Below.refl _ _).alloc (Nat.le_refl _) _)⟩
  have HX0 := nx_small i
  have HM1 : Shut (many b (nx i) ≤ b) := ⟨many_le h1 (nx i)⟩
  have HC : Shut (∀ n, (coll b (nx i) n).length = many b (nx i) → chosen b i = coll b (nx i) n) := ⟨fun n hn => chosen_high (by omega) hn⟩
  go_enter Tryd.func7, Tryd.ntmps7
  go_wp2_with fail
  refine (next_any i _ (by omega)).mono ?_
  rintro e w1 ⟨rfl, rfl⟩
  go_wp2_with fail
  refine (howMany_any (nx i) b _ HX0.lt hb HL1.out).mono ?_
  rintro e w1 ⟨rfl, rfl⟩
  clear hL HL1 hmk
  generalize (w.alloc (.cells (madeCells #[.bool false] b) 4)) = w1 at *
  generalize nx i = x0 at *
  generalize many b x0 = m at *
  go_wp2
  go_loopw [7, 8] (fun x mi wr => ∃ n : Nat, (coll b x0 n).length ≤ m ∧ x = .int .i64 (it n x0 : Nat) ∧ mi = .int .i64 (m - (coll b x0 n).length : Nat) ∧ Shut (OfInv w wr w.heap.size b x0 n)) (fun x mi _ => toGo b x0 m (intOf mi).toNat (intOf x).toNat)
  case atStart => exact ⟨0, Nat.zero_le _, rfl, rfl, H0⟩
  case round =>
    clear H0
    obtain ⟨n, hn, rfl, rfl, hI⟩ := hrel
    by_cases hlt : (coll b x0 n).length < m
    · have HN : Shut ((coll b x0 n).length < m) := ⟨hlt⟩
      have hmi : 0 < m - (coll b x0 n).length := by omega
      have hmb : m - (coll b x0 n).length ≤ 24 := by have := HM1.out; omega
      have HS := it_small HX0 n
      clear hlt hn
      generalize hxe : it n x0 = x at *
      have HXE : Shut (it n x0 = x) := ⟨hxe⟩
      generalize hme : m - (coll b x0 n).length = mi at *
      have HME : Shut (m - (coll b x0 n).length = mi) := ⟨hme⟩
      clear hxe hme
      go_wp2_with fail
      refine (next_any x _ HS.lt).mono ?_
      rintro e w2 ⟨rfl, rfl⟩
      obtain ⟨y, hy⟩ : ∃ y, nx x = y := ⟨_, rfl⟩
      rw [hy]
      have HY : Shut (nx x = y) := ⟨hy⟩
      have hyb : y < 1000000 := by have := nx_lt x; omega
      clear hy
      obtain ⟨k, hk⟩ : ∃ k, y / 7 % b = k := ⟨_, rfl⟩
      have hq : (y : Int) / 7 % (b : Int) = (k : Int) := by rw [← hk]; simp
      have hkb : k < b := by rw [← hk]; exact Nat.mod_lt _ (by omega)
      have HK : Shut (y / 7 % b = k) := ⟨hk⟩
      clear hk
      have c1 := hI.out.1.cell hkb
      have c2 := hI.out.1.frozen k
      have z1 := hI.out.2.2
      simp only [inAt] at c1
      by_cases hin : k ∈ coll b x0 n
      · rw [decide_eq_true hin] at c1
        have HIN : Shut (k ∈ coll b x0 n) := ⟨hin⟩
        clear hin
        go_wp2
        obtain ⟨s1, s2, s3⟩ := step_old hb HM1 HN HXE HME HY HK HIN
        exact ⟨⟨n + 1, by rw [s1]; exact Nat.le_of_lt HN.out, by rw [s2], by rw [s1, HME.out], ⟨by have h := hI.out; unfold OfInv at h ⊢; rw [s1]; exact h⟩⟩, s3⟩
      · rw [decide_eq_false hin] at c1
        have HIN : Shut (¬ k ∈ coll b x0 n) := ⟨hin⟩
        clear hin
        go_wp2
        obtain ⟨s1, s2, s3⟩ := step_new HN HXE HME HY HK HIN
        have e1 : (mi : Int) - 1 = ((mi - 1 : Nat) : Int) := by omega
        have hN := HN.out
        have hE := HME.out
        rw [e1]
        refine ⟨⟨n + 1, by rw [s1]; simp; omega, by rw [s2], by rw [s1]; congr 2; simp; omega, ⟨?_⟩⟩, s3⟩
        have h := hI.out
        unfold OfInv at h ⊢
        rw [s1]
        exact ⟨row_set h.1, h.2.1.setCell (Nat.le_refl _) _, by simpa using h.2.2⟩
    · have hz : m - (coll b x0 n).length = 0 := by omega
      have HE : Shut ((coll b x0 n).length = m) := ⟨by omega⟩
      rw [hz]
      clear hz hlt hn
      generalize it n x0 = x at *
      go_wp2
      go_ret2
      exact ⟨_, rfl, Nat.le_refl _, by rw [HC.out n HE.out]; exact hI.out.1, hI.out.2.1⟩

/-- pick.Of -/
theorem of_any (i b : Nat) (w : World) (hi : i ≤ 9999) (h1 : 1 ≤ b) (hb : b ≤ 24) (hL : Laid w) :
    Calls Tryd.prog 7 #[.int .i64 i, .int .i64 b] w fun e w' => ∃ g, e = .returned (.tuple #[.slice (some ⟨g, 0, none⟩) b b, .int .i64 0]) ∧ w.heap.size ≤ g ∧ w'.rowIs g 4 b (inAt (chosen b i)) ∧ Below w.heap.size w w' := by
  by_cases h : i < b
  · exact of_low i b w hi h1 hb h
  · exact of_high i b w hi h1 hb (by omega) hL

end Go.Proofs.YtdhholcbmeoagabDoor
