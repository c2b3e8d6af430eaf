/-
  slices.Insert of one row into a list of rows that has no room: its contract.
-/
import Derived.Test.YtclbmfjincekfabSlv6
import Derived.Lib.AppendZerosOnto
import Derived.Laws.IdiomCopy
import Derived.Deep.AppendSrc
import Derived.Deep.RegionLaw
namespace Go.Proofs.Ytclbmfjincekfab
open Go.RowKit
set_option linter.unusedVariables false
set_option linter.unusedSimpArgs false

/-- copy of elements of two cells each -/
theorem run_copy2 {P : Program} (w : World) (dT sT ty elem : TypeId) (b o dLen dCap : Nat) (a : Addr) (sLen sCap m : Nat) (cs : List Value)
    (hu : P.underlying dT = some (.slice elem)) (hs : (P.info? elem).map (·.size) = some 2) (hm : Nat.min sLen dLen = m) (hn : cs.length = m * 2)
    (hsrc : ∀ j v, cs[j]? = some v → w.cell? (a.add j) = some v) (hc : ∀ j, j < cs.length → (w.cell? ⟨b, o + j, none⟩).isSome = true) (hf : ∀ j, j < cs.length → w.frozen? ⟨b, o + j, none⟩ = false) (h1 : ∀ v ∈ cs, v.oneCell' = true) :
    (Builtin.copy_ #[dT, sT] ty #[.slice (some ⟨b, o, none⟩) dLen dCap, .slice (some a) sLen sCap]).run P w = .ok (goInt m) (w.setCells b o cs) := by
  have hl := run_loadCells_list (P := P) w a cs hsrc
  have hst := run_storeCells_cells (P := P) b o cs 0 w (by simpa using hc) (by simpa using hf) h1
  cases hq : P.info? elem with
  | none => simp [hq] at hs
  | some i =>
    have hi : i.size = 2 := by simpa [hq] using hs
    simp [Builtin.copy_, run_underlying hu, Builtin.lenOf, Builtin.firstCells, sizeOf, typeInfo, hq, hi, hm, ← hn, hl, hst]

theorem below_setCells {B : Nat} {W : World} (g : Nat) (hg : B ≤ g) : ∀ (vs : List Value) (o : Nat) (w : World), Below B W w → Below B W (w.setCells g o vs)
  | [], _, _, h => h
  | v :: r, o, w, h => below_setCells g hg r (o + 1) _ (h.setCell (p := ⟨g, o, none⟩) (by simpa using hg) v)

theorem rowCells_take : ∀ (R : List MRow) (i : Nat), rowCells (R.take i) = (rowCells R).take (2 * i)
  | [], i => by simp [rowCells]
  | r :: R, 0 => by simp [rowCells]
  | r :: R, i + 1 => by
    have ih := rowCells_take R i
    have e : rowCells (r :: R) = r.hv :: r.dv :: rowCells R := rfl
    have e2 : rowCells (r :: R.take i) = r.hv :: r.dv :: rowCells (R.take i) := rfl
    rw [List.take_succ_cons, e, e2, show 2 * (i + 1) = 2 * i + 1 + 1 by omega, List.take_succ_cons, List.take_succ_cons, ih]

theorem rowCells_drop : ∀ (R : List MRow) (i : Nat), rowCells (R.drop i) = (rowCells R).drop (2 * i)
  | [], i => by simp [rowCells]
  | r :: R, 0 => by simp [rowCells]
  | r :: R, i + 1 => by
    have ih := rowCells_drop R i
    have e : rowCells (r :: R) = r.hv :: r.dv :: rowCells R := rfl
    rw [List.drop_succ_cons, e, show 2 * (i + 1) = 2 * i + 1 + 1 by omega, List.drop_succ_cons, List.drop_succ_cons, ih]

theorem rowCells_one' (l : List MRow) : ∀ u ∈ rowCells l, u.oneCell' = true := by
  intro u hu
  obtain ⟨r, _, hm⟩ := List.mem_flatMap.1 hu
  simp at hm
  rcases hm with rfl | rfl <;> rfl

/-- at the end -/
theorem insert_end (g m vb : Nat) (R : List MRow) (x : MRow) (w : World) (hR : R.length = m) (hm : m ≤ 24) (hl : Lies w (some ⟨g, 0, none⟩) (rowCells R)) (hv : Lies w (some ⟨vb, 0, none⟩) (rowCells [x])) :
    Calls Try.prog 39 #[.slice (some ⟨g, 0, none⟩) m m, .int .i64 m, .slice (some ⟨vb, 0, none⟩) 1 1] w fun e w' =>
      ∃ (g' c' : Nat), e = .returned (.slice (some ⟨g', 0, none⟩) (m + 1) c') ∧ Lies w' (some ⟨g', 0, none⟩) (rowCells (R ++ [x])) ∧ Below w.heap.size w w' ∧ w.heap.size ≤ g' := by
  obtain ⟨i0, hi, hz0, hz1, hz2⟩ := info_parts infoRow'
  have hsrc : Src Try.prog i0.size 22 (.slice (some ⟨vb, 0, none⟩) 1 1) 1 (rowCells [x]) w := by
    rw [hz1]
    exact Src.ofSlice w Try.underlying22 ⟨vb, 0, none⟩ 1 1 (rowCells [x]) rfl (fun j u hj => by rw [Addr.add_lit]; exact hv.at hj) (rowCells_one' _)
  have hold : (Builtin.firstCells i0.size m (.slice (some ⟨g, 0, none⟩) m m)).run Try.prog w.drew = .ok (rowCells R).toArray w.drew := by
    rw [hz1]
    exact run_firstCells_some w.drew 2 m ⟨g, 0, none⟩ m m (rowCells R) (by rw [rowCells_length]; omega) (fun j v hj => by rw [Addr.add_lit]; exact hl.at hj)
  have hrun : ∀ ty, (Builtin.append_ #[22, 22] ty #[.slice (some ⟨g, 0, none⟩) m m, .slice (some ⟨vb, 0, none⟩) 1 1]).run Try.prog w = _ := fun ty =>
    run_append_grow_src w 22 22 ty 29 i0 _ Try.underlying22 hi hz0 (some ⟨g, 0, none⟩) m m (rowCells R) hold _ 1 (rowCells [x]) hsrc (by omega) (by omega) (by rw [hz2]; exact growslice_fits (by omega) (by omega))
  have hF : ∀ (q : Nat), Lies (w.drew.alloc (.cells ((rowCells R ++ rowCells [x]).toArray ++ Builtin.zeroCells (Value.agg #[.slice none 0 0, .slice none 0 0]).cells q) 29)) (some ⟨w.heap.size, 0, none⟩) (rowCells (R ++ [x])) := fun q => by
    have h := Lies.alloc_new w.drew ((rowCells R ++ rowCells [x]).toArray ++ Builtin.zeroCells (Value.agg #[.slice none 0 0, .slice none 0 0]).cells q) 29
    intro j u hj
    refine h j u ?_
    rw [rowCells_append] at hj
    rw [Array.toList_append, List.getElem?_append_left (by have := (List.getElem?_eq_some_iff.1 hj).1; simpa using this)]
    simpa using hj
  have hb : ∀ o, Below w.heap.size w (w.drew.alloc o) := fun o => ((Below.refl _ _).drew).alloc (by simp) o
  obtain ⟨G, hG⟩ : ∃ G, grownCap w (m + 1) m 29 = G := ⟨_, rfl⟩
  rw [hG] at hrun
  clear hG hold hsrc hl hv
  go_enter Try.func39, Try.ntmps39
  go_wp2_with (at_builtin; refine Lib.wpList_append_run _ rfl _ _ _ _ rfl _ _ rfl rfl _ _ (hrun _) ?_)
  all_goals
    go_ret
    exact ⟨_, _, rfl, hF _, hb _, Nat.le_refl _⟩

end Go.Proofs.Ytclbmfjincekfab
