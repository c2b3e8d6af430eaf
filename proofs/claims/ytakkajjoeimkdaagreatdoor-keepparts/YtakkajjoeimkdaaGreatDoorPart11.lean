import Derived.Test.YtakkajjoeimkdaaGreatDoorPart10
import Derived.Lib.AppendZerosOnto
import Derived.Laws.IdiomCopy
import Derived.Deep.AppendSrc
import Derived.Deep.RegionLaw
import Derived.Test.YtakkajjoeimkdaaGreatDoorPart5
import Derived.Test.YtakkajjoeimkdaaGreatDoorPart9
namespace Go.Proofs.YtakkajjoeimkdaaGreatDoor
open Go.RowKit
set_option linter.unusedVariables false
set_option linter.unusedSimpArgs false

theorem run_copy2 {P : Program} (w : World) (dT sT ty elem : TypeId) (b o dLen dCap : Nat) (a : Addr) (sLen sCap m : Nat) (cs : List Value)
  (hu : P.underlying dT = some (.slice elem)) (hs : (P.info? elem).map (·.size) = some 2) (hm : Nat.min sLen dLen = m) (hn : cs.length = m * 2)
  (hsrc : ∀ j v, cs[j]? = some v → w.cell? (a.add j) = some v) (hc : ∀ j, j < cs.length → (w.cell? ⟨b, o + j, none⟩).isSome = true) (hf : ∀ j, j < cs.length → w.frozen? ⟨b, o + j, none⟩ = false) (h1 : ∀ v ∈ cs, v.oneCell' = true) :
  (Builtin.copy_ #[dT, sT] ty #[.slice (some ⟨b, o, none⟩) dLen dCap, .slice (some a) sLen sCap]).run P w = .ok (goInt m) (w.setCells b o cs) := by
 have hl := run_loadCells_list (P := P) w a cs hsrc
 have hst := run_storeCells_cells (P := P) b o cs 0 w (by simpa using hc) (by simpa using hf) h1
 cases hq : P.info? elem with
 | none => simp [hq] at hs
 | some i =>
  have hi : i.size = 2 := by simpa [hq] using hs
  simp [Builtin.copy_, run_underlying hu, Builtin.lenOf, Builtin.firstCells, sizeOf, typeInfo, hq, hi, hm, ← hn, hl, hst]

theorem below_setCells {B : Nat} {W : World} (g : Nat) (hg : B ≤ g) : ∀ (vs : List Value) (o : Nat) (w : World), Below B W w → Below B W (w.setCells g o vs)
 | [], _, _, h => h
 | v :: r, o, w, h => below_setCells g hg r (o + 1) _ (h.setCell (p := ⟨g, o, none⟩) (by simpa using hg) v)

theorem rowCells_take : ∀ (R : List MRow) (i : Nat), rowCells (R.take i) = (rowCells R).take (2 * i)
 | [], i => by simp [rowCells]
 | r :: R, 0 => by simp [rowCells]
 | r :: R, i + 1 => by
  have ih := rowCells_take R i
  have e : rowCells (r :: R) = r.hv :: r.dv :: rowCells R := rfl
  have e2 : rowCells (r :: R.take i) = r.hv :: r.dv :: rowCells (R.take i) := rfl
  rw [List.take_succ_cons, e, e2, show 2 * (i + 1) = 2 * i + 1 + 1 by omega, List.take_succ_cons, List.take_succ_cons, ih]

theorem rowCells_drop : ∀ (R : List MRow) (i : Nat), rowCells (R.drop i) = (rowCells R).drop (2 * i)
 | [], i => by simp [rowCells]
 | r :: R, 0 => by simp [rowCells]
 | r :: R, i + 1 => by
  have ih := rowCells_drop R i
  have e : rowCells (r :: R) = r.hv :: r.dv :: rowCells R := rfl
  rw [List.drop_succ_cons, e, show 2 * (i + 1) = 2 * i + 1 + 1 by omega, List.drop_succ_cons, List.drop_succ_cons, ih]

theorem rowCells_one' (l : List MRow) : ∀ u ∈ rowCells l, u.oneCell' = true := by
 intro u hu
 obtain ⟨r, _, hm⟩ := List.mem_flatMap.1 hu
 simp at hm
 rcases hm with rfl | rfl <;> rfl

theorem insert_end (g m vb : Nat) (R : List MRow) (x : MRow) (w : World) (hR : R.length = m) (hm : m ≤ 24) (hl : Lies w (some ⟨g, 0, none⟩) (rowCells R)) (hv : Lies w (some ⟨vb, 0, none⟩) (rowCells [x])) :
  Calls Tryz.prog 211 #[.slice (some ⟨g, 0, none⟩) m m, .int .i64 m, .slice (some ⟨vb, 0, none⟩) 1 1] w fun e w' =>
   ∃ (g' c' : Nat), e = .returned (.slice (some ⟨g', 0, none⟩) (m + 1) c') ∧ Lies w' (some ⟨g', 0, none⟩) (rowCells (R ++ [x])) ∧ Below w.heap.size w w' ∧ w.heap.size ≤ g' := by
 obtain ⟨i0, hi, hz0, hz1, hz2⟩ := info_parts infoRow'
 have hsrc : Src Tryz.prog i0.size 201 (.slice (some ⟨vb, 0, none⟩) 1 1) 1 (rowCells [x]) w := by
  rw [hz1]
  exact Src.ofSlice w Tryz.underlying201 ⟨vb, 0, none⟩ 1 1 (rowCells [x]) rfl (fun j u hj => by rw [Addr.add_lit]; exact hv.at hj) (rowCells_one' _)
 have hold : (Builtin.firstCells i0.size m (.slice (some ⟨g, 0, none⟩) m m)).run Tryz.prog w.drew = .ok (rowCells R).toArray w.drew := by
  rw [hz1]
  exact run_firstCells_some w.drew 2 m ⟨g, 0, none⟩ m m (rowCells R) (by rw [rowCells_length]; omega) (fun j v hj => by rw [Addr.add_lit]; exact hl.at hj)
 have hrun : ∀ ty, (Builtin.append_ #[201, 201] ty #[.slice (some ⟨g, 0, none⟩) m m, .slice (some ⟨vb, 0, none⟩) 1 1]).run Tryz.prog w = _ := fun ty =>
  run_append_grow_src w 201 201 ty 237 i0 _ Tryz.underlying201 hi hz0 (some ⟨g, 0, none⟩) m m (rowCells R) hold _ 1 (rowCells [x]) hsrc (by omega) (by omega) (by rw [hz2]; exact growslice_fits (by omega) (by omega))
 have hF : ∀ (q : Nat), Lies (w.drew.alloc (.cells ((rowCells R ++ rowCells [x]).toArray ++ Builtin.zeroCells (Value.agg #[.slice none 0 0, .slice none 0 0]).cells q) 237)) (some ⟨w.heap.size, 0, none⟩) (rowCells (R ++ [x])) := fun q => by
  have h := Lies.alloc_new w.drew ((rowCells R ++ rowCells [x]).toArray ++ Builtin.zeroCells (Value.agg #[.slice none 0 0, .slice none 0 0]).cells q) 237
  intro j u hj
  refine h j u ?_
  rw [rowCells_append] at hj
  rw [Array.toList_append, List.getElem?_append_left (by have := (List.getElem?_eq_some_iff.1 hj).1; simpa using this)]
  simpa using hj
 have hb : ∀ o, Below w.heap.size w (w.drew.alloc o) := fun o => ((Below.refl _ _).drew).alloc (by simp) o
 obtain ⟨G, hG⟩ : ∃ G, grownCap w (m + 1) m 237 = G := ⟨_, rfl⟩
 rw [hG] at hrun
 clear hG hold hsrc hl hv
 go_enter Tryz.func211, Tryz.ntmps211
 go_wp2_with (at_builtin; refine Lib.wpList_append_run _ rfl _ _ _ _ rfl _ _ rfl rfl _ _ (hrun _) ?_)
 all_goals
  go_ret
  exact ⟨_, _, rfl, hF _, hb _, Nat.le_refl _⟩

theorem wpList_copy_run' {P : Program} (w : World) {ops : Array Oper} {rest : List Oper} {o : Oper} {a : Act} {Q : Exit → Act → World → Prop} (hgd : o.guard = none) (d s : Operand) (t t' : TypeId)
  (ho : o.op = .call { callee := .builtin .copy, args := #[d, s], argTypes := #[t, t'] }) (v u : Value) (hd : a.eval d = v) (hs : a.eval s = u) {v' : Value} {w' : World}
  (hr : (Builtin.copy_ #[t, t'] o.type #[v, u]).run P w = .ok v' w') (h : wpList P ops Q rest (a.put o.dst v') w') : wpList P ops Q (o :: rest) a w := by
 refine wpList_plain hgd fun K hK => ?_
 unfold Oper.wp execOp
 simp only [ho, resolve, invoke, builtin, Sem.run_bind, Sem.run_pure, Result.andThen_ok, List.map_toArray, List.map_cons, List.map_nil, hd, hs, hr]
 exact hK _ _ h

theorem step_copy_run' {P : Program} {ops : Array Oper} {o : Oper} {a : Act} {w : World} {K : Act → World → Prop} {Q : Exit → Act → World → Prop} {E : Prop} (hg : o.guard = none) (d x : Operand) (dT sT : TypeId)
  (hop : o.op = Op.call { callee := Callee.builtin Builtin.copy, args := #[d, x], argTypes := #[dT, sT] }) (v u : Value) (hd : a.eval d = v) (hx : a.eval x = u) {v' : Value} {w' : World} (hr : (Builtin.copy_ #[dT, sT] o.type #[v, u]).run P w = .ok v' w') (hK : K (a.put o.dst v') w') :
  if Region.wanted o (yielded ops a.tmps) = true then Oper.wp P o a w K Q else E := by
 have hw : Region.wanted o (yielded ops a.tmps) = true := by simp [Region.wanted, hg]
 rw [if_pos hw]
 unfold Oper.wp
 simp [execOp, hop, resolve, invoke, builtin, hd, hx, hr, Result.andThen]
 exact hK

theorem some_setCells (b : Nat) (vs : List Value) (o : Nat) (w : World) (h : ∀ j, j < vs.length → (w.cell? ⟨b, o + j, none⟩).isSome = true) (k : Nat) (hk : (w.cell? ⟨b, k, none⟩).isSome = true) : ((w.setCells b o vs).cell? ⟨b, k, none⟩).isSome = true := by
 by_cases hin : o ≤ k ∧ k < o + vs.length
 ·have := World.cell?_setCells_in b vs o w h (k - o) (by omega)
  rw [show o + (k - o) = k by omega] at this
  rw [this]; rfl
 ·rw [World.cell?_setCells_out b vs o w ⟨b, k, none⟩ (fun _ _ => by show k < o ∨ o + vs.length ≤ k; omega)]
  exact hk

theorem insert_cells {W V : World} {G i m : Nat} {cs vs : List Value} (hi : i ≤ m) (hcs : cs.length = m * 2) (hvs : vs.length = 2) (hs : ∀ j, j < (m + 1) * 2 → (W.cell? ⟨G, j, none⟩).isSome = true) (h0 : ∀ j (hj : j < i * 2), W.cell? ⟨G, j, none⟩ = some (cs[j]'(by omega)))
  (hV : ∀ y, V.cell? y = (W.setCells G (i * 2) vs).cell? y) : Lies (V.setCells G ((i + 1) * 2) (cs.drop (i * 2))) (some ⟨G, 0, none⟩) (cs.take (i * 2) ++ vs ++ cs.drop (i * 2)) := by
 have hsV : ∀ j, j < (m + 1) * 2 → (V.cell? ⟨G, j, none⟩).isSome = true := fun j hj => by
  rw [hV]
  exact some_setCells _ _ _ _ (fun t ht => hs _ (by omega)) _ (hs j hj)
 have hdl : (cs.drop (i * 2)).length = (m - i) * 2 := by rw [List.length_drop]; omega
 refine Lies.mk fun k hk => ?_
 rw [Nat.zero_add]
 have hk' : k < (m + 1) * 2 := by simp [hcs, hvs] at hk; omega
 by_cases h1 : k < i * 2
 ·rw [World.cell?_setCells_out _ _ _ _ _ (fun _ _ => by show k < (i + 1) * 2 ∨ _; omega), hV, World.cell?_setCells_out _ _ _ _ _ (fun _ _ => by show k < i * 2 ∨ _; omega), h0 k h1]
  rw [List.getElem_append_left (by simp [hcs, hvs]; omega), List.getElem_append_left (by rw [List.length_take]; omega), List.getElem_take]
 ·by_cases h2 : k < (i + 1) * 2
  ·rw [World.cell?_setCells_out _ _ _ _ _ (fun _ _ => by show k < (i + 1) * 2 ∨ _; omega), hV]
   have := World.cell?_setCells_in G vs (i * 2) W (fun j hj => hs _ (by omega)) (k - i * 2) (by omega)
   rw [show i * 2 + (k - i * 2) = k by omega] at this
   rw [this]
   congr 1
   rw [List.getElem_append_left (by simp [hcs, hvs]; omega), List.getElem_append_right (by rw [List.length_take]; omega)]
   congr 1
   rw [List.length_take]
   omega
  ·have := World.cell?_setCells_in G (cs.drop (i * 2)) ((i + 1) * 2) V (fun j hj => hsV _ (by omega)) (k - (i + 1) * 2) (by omega)
   rw [show (i + 1) * 2 + (k - (i + 1) * 2) = k by omega] at this
   rw [this]
   congr 1
   rw [List.getElem_append_right (by simp [hcs, hvs]; omega)]
   congr 1
   simp [hcs, hvs]
   omega

set_option maxHeartbeats 4000000 in
set_option maxRecDepth 100000 in
theorem insert_mid (g m vb i : Nat) (R : List MRow) (x : MRow) (w : World) (hR : R.length = m) (hm : m ≤ 24) (hi : i < m) (hl : Lies w (some ⟨g, 0, none⟩) (rowCells R)) (hv : Lies w (some ⟨vb, 0, none⟩) (rowCells [x])) :
  Calls Tryz.prog 211 #[.slice (some ⟨g, 0, none⟩) m m, .int .i64 i, .slice (some ⟨vb, 0, none⟩) 1 1] w fun e w' =>
   ∃ (g' c' : Nat), e = .returned (.slice (some ⟨g', 0, none⟩) (m + 1) c') ∧ Lies w' (some ⟨g', 0, none⟩) (rowCells (R.take i ++ x :: R.drop i)) ∧ Below w.heap.size w w' ∧ w.heap.size ≤ g' := by
 obtain ⟨i0, hi0, hz0, hzs, hzb⟩ := info_parts infoRow'
 have hsz : (Tryz.prog.info? 237).map (·.size) = some 2 := by rw [hi0]; simp [hzs]
 have hcl : (rowCells R).length = m * 2 := by rw [rowCells_length]; omega
 have hgw : g < w.heap.size := World.block_lt_of_cell? w _ (hl.at (k := 0) (List.getElem?_eq_getElem (by omega)))
 have hvw : vb < w.heap.size := World.block_lt_of_cell? w _ (hv.at (k := 0) (List.getElem?_eq_getElem (by simp [rowCells])))
 have hkk : (m : Int) + 1 - (i : Int) = ((m + 1 - i : Nat) : Int) := by omega
 have hik : i + (m + 1 - i) = m + 1 := by omega
 have hold : (Builtin.firstCells i0.size i (.slice (some ⟨g, 0, none⟩) i m)).run Tryz.prog w.drew = .ok ((rowCells R).take (i * 2)).toArray w.drew := by
  rw [hzs]
  exact run_firstCells_some w.drew 2 i ⟨g, 0, none⟩ i m ((rowCells R).take (i * 2)) (by rw [List.length_take]; omega) (fun j v hj => by
   rw [Addr.add_lit]
   rw [List.getElem?_take] at hj
   split at hj
   ·exact hl.at hj
   ·cases hj)
 obtain ⟨G, hG⟩ : ∃ G, G = grownCap w (m + 1) m 237 := ⟨_, rfl⟩
 have hGn : m + 1 ≤ G := by rw [hG]; exact grownCap_ge w _ _ _
 have hG63 : G ≤ 9223372036854775807 := by
  have := grownCap_le_maxLen w (m + 1) m 237 (by unfold maxLen; omega)
  rw [← hG] at this
  unfold maxLen at this
  omega
 obtain ⟨ROW, hROW⟩ : ∃ ROW : Array Value, ROW = ((rowCells R).take (i * 2)).toArray ++ Builtin.zeroCells (Value.agg #[.slice none 0 0, .slice none 0 0]).cells (m + 1 - i) ++ Builtin.zeroCells (Value.agg #[.slice none 0 0, .slice none 0 0]).cells (G - (m + 1)) := ⟨_, rfl⟩
 have hrz : ∀ ty, (Builtin.append_ #[201, 3] ty #[.slice (some ⟨g, 0, none⟩) i m, .int .i64 ((m : Int) + 1 - (i : Int))]).run Tryz.prog w =
   .ok (.slice (some ⟨w.heap.size, 0, none⟩) (m + 1) G) (w.drew.alloc (.cells ROW 237)) := fun ty => by
  have h := Lib.run_append_grow_zeros w 201 3 ty 237 i0 _ .i64 .i64 Tryz.underlying201 Tryz.underlying3 hi0 hz0 (some ⟨g, 0, none⟩) i m ((rowCells R).take (i * 2)) hold (m + 1 - i) (by omega) (by omega) (by omega) (by omega) (by rw [hzb]; omega) (by rw [hzb, hik]; exact growslice_fits (by omega) (by omega))
  rw [hik, ← hG, ← hROW] at h
  rw [hkk]
  exact h
 have hRl : (m + 1) * 2 ≤ ROW.size := by
  rw [hROW]
  simp [Builtin.zeroCells, Value.cells, hcl]
  omega
 have hR0 : ∀ j (hj : j < i * 2), ROW[j]? = some ((rowCells R)[j]'(by omega)) := fun j hj => by
  rw [hROW, Array.append_assoc, Array.getElem?_append_left (by simp [hcl]; omega)]
  simp [List.getElem?_take, hj, show j < (rowCells R).length by omega]
 obtain ⟨W1, hW1⟩ : ∃ W1, W1 = w.drew.alloc (.cells ROW 237) := ⟨_, rfl⟩
 have hb1 : Below w.heap.size w W1 := by rw [hW1]; exact ((Below.refl _ _).drew).alloc (by simp) _
 have hblk : W1.heap[w.heap.size]? = some (.cells ROW 237 (0, 0)) := by rw [hW1, heap_alloc_eq, if_pos (by rfl)]
 have hN : ∀ j, j < (m + 1) * 2 → (W1.cell? ⟨w.heap.size, j, none⟩).isSome = true := fun j hj => by
  simp only [World.cell?, hblk]
  rw [Array.getElem?_eq_getElem (by omega)]; rfl
 have hN0 : ∀ j (hj : j < i * 2), W1.cell? ⟨w.heap.size, j, none⟩ = some ((rowCells R)[j]'(by omega)) := fun j hj => by
  simp only [World.cell?, hblk]
  exact hR0 j hj
 have hNf : ∀ j, W1.frozen? ⟨w.heap.size, j, none⟩ = false := fun j => by simp only [World.frozen?, hblk]; simp
 have hl1 := hl.below hb1 (Nat.le_refl _)
 have hv1 := hv.below hb1 (Nat.le_refl _)
 have hvl : (rowCells [x]).length = 2 := rfl
 have hdl : ((rowCells R).drop (i * 2)).length = (m - i) * 2 := by rw [List.length_drop, hcl]; omega
 have hcpA : ∀ (W : World), (∀ y, W.cell? y = W1.cell? y) → (∀ y, W.frozen? y = W1.frozen? y) → ∀ ty dc, (Builtin.copy_ #[201, 201] ty #[.slice (some ⟨w.heap.size, i * 2, none⟩) (m + 1 - i) dc, .slice (some ⟨vb, 0, none⟩) 1 1]).run Tryz.prog W = .ok (goInt 1) (W.setCells w.heap.size (i * 2) (rowCells [x])) := fun W hWc hWf ty dc =>
  run_copy2 W _ _ ty 237 w.heap.size (i * 2) (m + 1 - i) dc ⟨vb, 0, none⟩ 1 1 1 (rowCells [x]) Tryz.underlying201 hsz (by simp only [Nat.min_def]; split <;> omega) rfl
   (fun j v hj => by rw [Addr.add_lit, hWc]; exact hv1.at hj)
   (fun j hj => by rw [hWc]; exact hN _ (by omega)) (fun j hj => by rw [hWf]; exact hNf _) (rowCells_one' _)
 have hcpB : ∀ (W : World), (∀ y, W.cell? y = (W1.setCells w.heap.size (i * 2) (rowCells [x])).cell? y) → (∀ y, W.frozen? y = (W1.setCells w.heap.size (i * 2) (rowCells [x])).frozen? y) → ∀ ty dc sc, (Builtin.copy_ #[201, 201] ty #[.slice (some ⟨w.heap.size, (i + 1) * 2, none⟩) (m + 1 - (i + 1)) dc, .slice (some ⟨g, i * 2, none⟩) (m - i) sc]).run Tryz.prog W = .ok (goInt ((m - i : Nat) : Int)) (W.setCells w.heap.size ((i + 1) * 2) ((rowCells R).drop (i * 2))) := fun W hWc hWf ty dc sc =>
  run_copy2 W _ _ ty 237 w.heap.size ((i + 1) * 2) (m + 1 - (i + 1)) dc ⟨g, i * 2, none⟩ (m - i) sc (m - i) ((rowCells R).drop (i * 2)) Tryz.underlying201 hsz (by simp only [Nat.min_def]; split <;> omega) hdl
   (fun j v hj => by
    rw [Addr.add_lit, hWc, World.cell?_setCells_out _ _ _ _ _ (fun h _ => absurd h (by show g ≠ w.heap.size; omega))]
    have := hl1.at (k := i * 2 + j) (u := v) (by rwa [List.getElem?_drop] at hj)
    simpa using this)
   (fun j hj => by rw [hWc]; exact some_setCells _ _ _ _ (fun t ht => hN _ (by omega)) _ (hN _ (by omega)))
   (fun j hj => by rw [hWf, World.frozen?_setCells]; exact hNf _) (fun v hv => rowCells_one' _ v (List.mem_of_mem_drop hv))
 have HF : Shut (∀ (A V : World), (∀ y, A.cell? y = W1.cell? y) → (∀ y, V.cell? y = (A.setCells w.heap.size (i * 2) (rowCells [x])).cell? y) → Lies (V.setCells w.heap.size ((i + 1) * 2) ((rowCells R).drop (i * 2))) (some ⟨w.heap.size, 0, none⟩) (rowCells (R.take i ++ x :: R.drop i))) := ⟨fun A V hA hV => by
  have h := insert_cells (W := A) (V := V) (G := w.heap.size) (i := i) (m := m) (cs := rowCells R) (vs := rowCells [x]) (by omega) hcl hvl (fun j hj => by rw [hA]; exact hN j hj) (fun j hj => by rw [hA]; exact hN0 j hj) hV
  have e : rowCells (R.take i ++ x :: R.drop i) = (rowCells R).take (i * 2) ++ rowCells [x] ++ (rowCells R).drop (i * 2) := by
   rw [show R.take i ++ x :: R.drop i = R.take i ++ [x] ++ R.drop i by simp, rowCells_append, rowCells_append, rowCells_take, rowCells_drop, Nat.mul_comm]
  rw [e]
  exact h⟩
 have HB := Shut.mk hb1
 have hz2 : ¬ (i = m) := by omega
 have hz3 : ¬ (m + 1 ≤ m) := by omega
 have hGi : ¬ (G = i) := by omega
 have hGim : ¬ (G = i + 1) := by omega
 have hci : ¬ (m = i) := by omega
 have hw1 : IntKind.i64.wrap ((i : Int) + 1) = (i : Int) + 1 := by rw [IntKind.wrap_i64]; omega
 have hb1' : (0 : Int) ≤ (i : Int) + 1 := by omega
 have hin : i ≤ m := by omega
 have htn : ((i : Int) + 1).toNat = i + 1 := by omega
 rw [← hW1] at hrz
 subst hW1
 clear hkk hik hold hROW hG hRl hl hv hl1 hv1 hN hN0 hNf hblk hR0 hb1 hdl hcl hvl
 have hA := hcpA ((w.alloc (.cells ROW 237)).drew) (fun _ => rfl) (fun _ => rfl) 3 (G - i)
 have hBq := hcpB ((((w.alloc (.cells ROW 237)).drew).setCells w.heap.size (i * 2) (rowCells [x])).drew) (fun _ => rfl) (fun _ => rfl) 3 (G - (i + 1)) (m - i)
 have HL := Shut.mk (HF.out ((w.alloc (.cells ROW 237)).drew) ((((w.alloc (.cells ROW 237)).drew).setCells w.heap.size (i * 2) (rowCells [x])).drew) (fun _ => rfl) (fun _ => rfl))
 have HB2 : Shut (Below w.heap.size w (((((w.alloc (.cells ROW 237)).drew).setCells w.heap.size (i * 2) (rowCells [x])).drew).setCells w.heap.size ((i + 1) * 2) ((rowCells R).drop (i * 2)))) := ⟨below_setCells _ (Nat.le_refl _) _ _ _ ((below_setCells _ (Nat.le_refl _) _ _ _ (((Below.refl _ _).alloc (Nat.le_refl _) _).drew)).drew)⟩
 clear hcpA hcpB HF HB
 go_enter Tryz.func211, Tryz.ntmps211
 go_wp2_with (at_builtin; refine Lib.wpList_append_run _ rfl _ _ _ _ rfl _ _ rfl rfl _ _ (hrz _) ?_)
 go_region_law (refine step_copy_run' rfl _ _ 201 201 rfl (.slice (some ⟨w.heap.size, (i + 1) * 2, none⟩) (m + 1 - (i + 1)) (G - (i + 1))) (.slice (some ⟨g, i * 2, none⟩) (m - i) (m - i)) (by simp [Act.eval, Act.put]) (by simp [Act.eval, Act.put]) hBq ?_)
 all_goals
  go_wp2
  go_ret
  exact ⟨_, _, rfl, HL.out, HB2.out, Nat.le_refl _⟩

theorem insertS_any (g m vb i : Nat) (R : List MRow) (x : MRow) (w : World) (hR : R.length = m) (hm : m ≤ 24) (hi : i ≤ m) (hl : Lies w (some ⟨g, 0, none⟩) (rowCells R)) (hv : Lies w (some ⟨vb, 0, none⟩) (rowCells [x])) :
  Calls Tryz.prog 211 #[.slice (some ⟨g, 0, none⟩) m m, .int .i64 i, .slice (some ⟨vb, 0, none⟩) 1 1] w fun e w' =>
   ∃ (g' c' : Nat), e = .returned (.slice (some ⟨g', 0, none⟩) (m + 1) c') ∧ Lies w' (some ⟨g', 0, none⟩) (rowCells (R.take i ++ x :: R.drop i)) ∧ Below w.heap.size w w' ∧ w.heap.size ≤ g' := by
 by_cases h : i = m
 ·subst h
  have := insert_end g i vb R x w hR hm hl hv
  rw [List.take_of_length_le (by omega), List.drop_of_length_le (by omega)]
  exact this
 ·exact insert_mid g m vb i R x w hR hm (by omega) hl hv

theorem indexT_any (a : Option Addr) (cap : Nat) (h : List Bool) (w : World) (hx : h.length ≤ maxLen) (hla : Lies w a (h.map Value.bool)) :
  Calls Tryz.prog 191 #[.slice a h.length cap, .bool true] w fun e w' => e = .returned (.int .i64 (firstI h)) ∧ w = w' := by
 unfold maxLen at hx
 go_enter Tryz.func191, Tryz.ntmps191
 go_wp2
 go_loopw [8] (fun i wr => ∃ k : Nat, k ≤ h.length ∧ i = .int .i64 k ∧ wr = w ∧ Shut (∀ j (hj : j < h.length), j < k → h[j] = false)) (fun i _ => h.length - (intOf i).toNat)
 case atStart => exact ⟨0, Nat.zero_le _, rfl, rfl, ⟨fun j _ hj => by omega⟩⟩
 case round =>
  obtain ⟨k, hk, rfl, rfl, HN⟩ := hrel
  by_cases hlt : k < h.length
  ·obtain ⟨b1, o1, rfl⟩ := hla.some (k := k) (by simpa using hlt)
   have c1 : wr.cell? ⟨b1, o1 + k, none⟩ = some (.bool h[k]) := hla.at (by simp [hlt])
   clear hla
   cases hx : h[k]
   ·have HN2 : Shut (∀ j (hj : j < h.length), j < k + 1 → h[j] = false) := ⟨fun j hj hjk => by
     by_cases e : j = k
     ·subst e; exact hx
     ·exact HN.out j hj (by omega)⟩
    rw [hx] at c1
    clear hx HN
    go_wp2
    go_roundw
    case rel => exact ⟨k + 1, by omega, by go_num, trivial, HN2⟩
    case measure => simp [intOf]; omega
   ·have HF : Shut (firstI h = k) := ⟨firstI_at hlt hx fun j hj => HN.out j (by omega) hj⟩
    rw [hx] at c1
    clear hx HN
    go_wp2
    go_ret
    exact ⟨ret_int HF.out.symm, rfl⟩
  ·have HF : Shut (firstI h = -1) := ⟨firstI_none fun j hj => HN.out j hj (by omega)⟩
   clear hla HN
   go_wp2
   go_ret
   exact ⟨ret_int HF.out.symm, rfl⟩

theorem firstI_mem (h : List Bool) : decide (0 ≤ firstI h) = decide (true ∈ h) := by
 rcases firstI_range h with e | ⟨m, e, hm, ht, _⟩
 ·rw [e]
  rw [decide_eq_false (by omega)]
  symm
  refine decide_eq_false fun hm => ?_
  obtain ⟨i, hi, hx⟩ := List.getElem_of_mem hm
  have := (firstI_no (r := (h, []))).1 e i
  rw [LRow.v_has hi] at this
  simp only at this
  rw [hx] at this
  cases this
 ·rw [e]
  rw [decide_eq_true (by omega)]
  symm
  refine decide_eq_true ?_
  rw [List.getD_eq_getElem?_getD, List.getElem?_eq_getElem hm] at ht
  simp only [Option.getD_some] at ht
  rw [← ht]
  exact List.getElem_mem hm

theorem containsT_any (a : Option Addr) (cap : Nat) (h : List Bool) (w : World) (hx : h.length ≤ maxLen) (hla : Lies w a (h.map Value.bool)) :
  Calls Tryz.prog 163 #[.slice a h.length cap, .bool true] w fun e w' => e = .returned (.bool (decide (true ∈ h))) ∧ w = w' := by
 have HM := Shut.mk (firstI_mem h)
 go_enter Tryz.func163, Tryz.ntmps163
 go_wp2_with fail
 refine (indexT_any a cap h w hx hla).mono ?_
 rintro e w1 ⟨rfl, rfl⟩
 clear hla hx
 generalize firstI h = q at *
 go_wp2
 all_goals go_ret
 all_goals exact ⟨retB HM.out, rfl⟩

theorem first_any (r : MRow) (w : World) (hr : RowIn w r) : Calls Tryz.prog 162 #[.agg #[r.hv, r.dv]] w fun e w' => e = .returned (.int .i64 (firstI r.h)) ∧ Below w.heap.size w w' := by
 obtain ⟨h1, h2, h3, h4⟩ := hr
 have hla := h1.alloc (.cells #[r.hv, r.dv] 237)
 have hb : Below w.heap.size w (w.alloc (.cells #[r.hv, r.dv] 237)) := (Below.refl _ _).alloc (Nat.le_refl _) _
 have hI := indexT_any r.ha r.hc r.h _ h3 hla
 clear h1 h2 h4 h3 hla
 unfold MRow.hv at *
 obtain ⟨ha, hc, h, da, dc, d⟩ := r
 simp only at *
 generalize MRow.dv ⟨ha, hc, h, da, dc, d⟩ = dv at *
 go_enter Tryz.func162, Tryz.ntmps162
 go_wp2_with fail
 refine hI.mono ?_
 rintro e w1 ⟨rfl, rfl⟩
 obtain ⟨q, hq⟩ : ∃ q, firstI h = q := ⟨_, rfl⟩
 rw [hq]
 have HQ := Shut.mk hq
 clear hI hq
 go_wp2
 go_ret
 exact ⟨ret_int HQ.out.symm, hb⟩

theorem fits_any (B K : Int) (ra : Option Addr) (m rc : Nat) (r : MRow) (w : World) (hr : RowIn w r) :
  Calls Tryz.prog 184 #[.agg #[.int .i64 B, .int .i64 K, .slice ra m rc], .agg #[r.hv, r.dv]] w fun e w' => e = .returned (.bool (decide ((r.h.length : Int) = B ∧ (r.d.length : Int) = K))) ∧ Below w.heap.size w w' := by
 obtain ⟨_, _, h3, h4⟩ := hr
 obtain ⟨ha, hc, rh, da, dc, rd⟩ := r
 simp only [MRow.hv, MRow.dv] at *
 unfold maxLen at h3 h4
 have hb : Below w.heap.size w ((w.alloc (.cells #[.int .i64 B, .int .i64 K, .slice ra m rc] 203)).alloc (.cells #[.slice ha rh.length hc, .slice da rd.length dc] 237)) := ((Below.refl _ _).alloc (Nat.le_refl _) _).alloc (by simp) _
 by_cases e1 : (rh.length : Int) = B
 ·have f1 : ((rh.length : Int) == B) = true := by simpa using e1
  by_cases e2 : (rd.length : Int) = K
  ·have f2 : ((rd.length : Int) == K) = true := by simpa using e2
   rw [decide_eq_true ⟨e1, e2⟩]
   clear e1 e2
   go_enter Tryz.func184, Tryz.ntmps184
   go_wp2
   go_ret
   exact ⟨rfl, hb⟩
  ·have f2 : ((rd.length : Int) == K) = false := by simpa using e2
   rw [decide_eq_false fun hh => e2 hh.2]
   clear e1 e2
   go_enter Tryz.func184, Tryz.ntmps184
   go_wp2
   go_ret
   exact ⟨rfl, hb⟩
 ·have f1 : ((rh.length : Int) == B) = false := by simpa using e1
  rw [decide_eq_false fun hh => e1 hh.1]
  clear e1
  go_enter Tryz.func184, Tryz.ntmps184
  go_wp2
  go_ret
  exact ⟨rfl, hb⟩

theorem holders_any (a : Option Addr) (cap : Nat) (l : List MRow) (c n : Nat) (w : World) (hl : l.length ≤ 25) (ha : Lies w a (rowCells l)) (hall : ∀ r ∈ l, RowIn w r) (hn : ∀ r ∈ l, r.h.length = n) (hc : c < n) (hn2 : n ≤ 24) :
  Calls Tryz.prog 185 #[.slice a l.length cap, .int .i64 c] w fun e w' => e = .returned (.int .i64 (holdL (l.map MRow.says) c : Nat)) ∧ Below w.heap.size w w' := by
 go_enter Tryz.func185, Tryz.ntmps185
 go_wp2
 go_loopw [5, 10] (fun v i wr => ∃ q : Nat, q ≤ l.length ∧ i = .int .i64 q ∧ v = .int .i64 (holdL ((l.map MRow.says).take q) c : Nat) ∧ Below w.heap.size w wr) (fun _ i _ => l.length - (intOf i).toNat)
 case atStart => exact ⟨0, Nat.zero_le _, rfl, rfl, Below.refl _ _⟩
 case round =>
  obtain ⟨q, hq, rfl, rfl, hb⟩ := hrel
  by_cases hlt : q < l.length
  ·obtain ⟨b1, o1, rfl⟩ := ha.some (k := 2 * q) (by rw [rowCells_length]; omega)
   obtain ⟨c0, c1⟩ := row_at (ha.below hb (Nat.le_refl _)) hlt
   have hr := (hall _ (List.getElem_mem hlt)).below hb
   have hrn := hn _ (List.getElem_mem hlt)
   have HT : Shut (holdL ((l.map MRow.says).take (q + 1)) c = holdL ((l.map MRow.says).take q) c + if l[q].h.getD c false = true then 1 else 0) := ⟨by
    rw [List.take_succ_eq_append_getElem (by simpa using hlt)]
    unfold holdL
    rw [List.countP_append]
    simp [MRow.says, List.countP_cons]⟩
   have hcl : holdL ((l.map MRow.says).take q) c ≤ 25 := Nat.le_trans List.countP_le_length (by simp; omega)
   generalize l[q]'hlt = R at *
   generalize holdL ((l.map MRow.says).take q) c = cn at *
   obtain ⟨rha, rhc, rh, rda, rdc, rd⟩ := R
   simp only [MRow.hv, MRow.dv] at *
   have bd : Below wr.heap.size wr (wr.alloc (.cells #[.slice rha rh.length rhc, .slice rda rd.length rdc] 237)) := (Below.refl _ _).alloc (Nat.le_refl _) _
   have hcr : c < rh.length := by omega
   obtain ⟨b2, o2, hx⟩ := hr.1.some (k := c) (by simpa using hcr)
   simp only at hx
   subst hx
   have c2 : wr.cell? ⟨b2, o2 + c, none⟩ = some (.bool rh[c]) := hr.1.at (by simp [hcr])
   have HG : Shut (rh.getD c false = rh[c]) := ⟨by rw [List.getD_eq_getElem?_getD, List.getElem?_eq_getElem hcr]; rfl⟩
   have c2' := cellC c2 bd
   rw [HG.out] at HT
   have hb3 := hb.trans (bd.mono hb.size)
   have hr24 : rh.length ≤ 24 := by omega
   clear HG hr ha hall hn c2 hrn
   cases hx : rh[c]
   ·rw [hx] at c2' HT
    clear hx
    go_wp2
    go_roundw
    case rel => exact ⟨q + 1, by omega, by go_num, by rw [HT.out]; rfl, hb3⟩
    case measure => simp [intOf]; omega
   ·rw [hx] at c2' HT
    clear hx
    go_wp2
    go_roundw
    case rel => exact ⟨q + 1, by omega, by go_num, by rw [HT.out]; go_num, hb3⟩
    case measure => simp [intOf]; omega
  ·have HE : Shut (holdL ((l.map MRow.says).take q) c = holdL (l.map MRow.says) c) := ⟨by rw [List.take_of_length_le (by simp; omega)]⟩
   rw [HE.out]
   clear HE ha hall hn
   go_wp2
   go_ret
   exact ⟨rfl, hb⟩

def aheadI (A : List LRow) (q : Nat) : Int := if q = 0 then -1 else firstI (A[q - 1]?.getD ([], [])).1

theorem firstI_ge (h : List Bool) : -1 ≤ firstI h := by
 rcases firstI_range h with e | ⟨m, e, _⟩ <;> omega

theorem aheadI_ge (A : List LRow) (q : Nat) : -1 ≤ aheadI A q := by
 unfold aheadI
 split
 ·omega
 ·exact firstI_ge _

theorem firstI_lt (h : List Bool) : firstI h < h.length ∨ h.length = 0 ∧ firstI h = -1 := by
 rcases firstI_range h with e | ⟨m, e, hm, _⟩
 ·rcases Nat.eq_zero_or_pos h.length with h0 | h0 <;> omega
 ·omega

theorem checkS_range (B K : Int) (ra : Option Addr) (n rc : Nat) (w : World) (h : ¬ (1 ≤ B ∧ B ≤ 24 ∧ 1 ≤ K ∧ K ≤ 16)) :
  Calls Tryz.prog 159 #[.agg #[.int .i64 B, .int .i64 K, .slice ra n rc]] w fun e w' => e = .returned (.int .i64 3) ∧ Below w.heap.size w w' := by
 have hb : Below w.heap.size w (w.alloc (.cells #[.int .i64 B, .int .i64 K, .slice ra n rc] 203)) := (Below.refl _ _).alloc (Nat.le_refl _) _
 obtain ⟨x0, x1, x2⟩ := Box3.mk w (.int .i64 B) (.int .i64 K) (.slice ra n rc) 203
 by_cases h1 : B < 1
 ·clear h
  go_enter Tryz.func159, Tryz.ntmps159
  go_wp2
  go_ret
  exact ⟨rfl, hb⟩
 ·by_cases h2 : 24 < B
  ·clear h
   go_enter Tryz.func159, Tryz.ntmps159
   go_wp2
   go_ret
   exact ⟨rfl, hb⟩
  ·by_cases h3 : K < 1
   ·clear h
    go_enter Tryz.func159, Tryz.ntmps159
    go_wp2
    go_ret
    exact ⟨rfl, hb⟩
   ·have h4 : 16 < K := by omega
    clear h
    go_enter Tryz.func159, Tryz.ntmps159
    go_wp2
    go_ret
    exact ⟨rfl, hb⟩

theorem checkS_many (B K : Int) (ra : Option Addr) (n rc : Nat) (w : World) (h : 1 ≤ B ∧ B ≤ 24 ∧ 1 ≤ K ∧ K ≤ 16) (hn : n ≤ maxLen) (h2 : B < n) :
  Calls Tryz.prog 159 #[.agg #[.int .i64 B, .int .i64 K, .slice ra n rc]] w fun e w' => e = .returned (.int .i64 2) ∧ Below w.heap.size w w' := by
 unfold maxLen at hn
 have hb : Below w.heap.size w (w.alloc (.cells #[.int .i64 B, .int .i64 K, .slice ra n rc] 203)) := (Below.refl _ _).alloc (Nat.le_refl _) _
 obtain ⟨x0, x1, x2⟩ := Box3.mk w (.int .i64 B) (.int .i64 K) (.slice ra n rc) 203
 obtain ⟨h1, h3, h4, h5⟩ := h
 have g1 : ¬ B < 1 := by omega
 have g2 : ¬ 24 < B := by omega
 have g3 : ¬ K < 1 := by omega
 have g4 : ¬ 16 < K := by omega
 go_enter Tryz.func159, Tryz.ntmps159
 go_wp2
 go_ret
 exact ⟨rfl, hb⟩

set_option maxRecDepth 4000 in
set_option maxHeartbeats 2000000 in
theorem checkS_rows (n k : Nat) (ra : Option Addr) (rc : Nat) (rows : List MRow) (w : World) (h1 : 1 ≤ n ∧ n ≤ 24) (h2 : 1 ≤ k ∧ k ≤ 16) (hm : rows.length ≤ n) (hl : Lies w ra (rowCells rows)) (hr : ∀ r ∈ rows, RowIn w r) :
  Calls Tryz.prog 159 #[.agg #[.int .i64 n, .int .i64 k, .slice ra rows.length rc]] w fun e w' => e = .returned (.int .i64 (chkSys n k (rows.map MRow.says))) ∧ Below w.heap.size w w' := by
 have hb : Below w.heap.size w (w.alloc (.cells #[.int .i64 n, .int .i64 k, .slice ra rows.length rc] 203)) := (Below.refl _ _).alloc (Nat.le_refl _) _
 obtain ⟨x0, x1, x2⟩ := Box3.mk w (.int .i64 n) (.int .i64 k) (.slice ra rows.length rc) 203
 have HR : Shut (1 ≤ (n : Int) ∧ (n : Int) ≤ 24 ∧ 1 ≤ (k : Int) ∧ (k : Int) ≤ 16) := ⟨by omega⟩
 obtain ⟨h3, h4⟩ := h1
 obtain ⟨h5, h6⟩ := h2
 have g1 : ¬ n < 1 := by omega
 have g2 : ¬ 24 < n := by omega
 have g3 : ¬ k < 1 := by omega
 have g4 : ¬ 16 < k := by omega
 have hm' : ¬ (n : Int) < rows.length := by omega
 have hmN : ¬ n < rows.length := by omega
 have HM := Shut.mk hm'
 go_enter Tryz.func159, Tryz.ntmps159
 go_wp2
 replace hl := hl.below hb (Nat.le_refl _)
 replace hr : ∀ r ∈ rows, RowIn _ r := fun r hr' => (hr r hr').below hb
 obtain ⟨W0, hW0⟩ : ∃ W0, w.alloc (.cells #[.int .i64 n, .int .i64 k, .slice ra rows.length rc] 203) = W0 := ⟨_, rfl⟩
 rw [hW0] at hb hl x0 x1 x2 ⊢
 rw [hW0] at hr
 clear hW0
 go_loopw [36] (fun m wr => ∃ q : Nat, q ≤ rows.length ∧ m = .int .i64 q ∧ Shut (∀ r ∈ rows.take q, Fits n k r.says) ∧ Below W0.heap.size W0 wr) (fun m _ => rows.length - (intOf m).toNat)
 case atStart => exact ⟨0, Nat.zero_le _, rfl, ⟨fun i hi => by simp at hi⟩, Below.refl _ _⟩
 case round =>
  obtain ⟨q, hq, rfl, HE, hbr⟩ := hrel
  by_cases hlt : q < rows.length
  ·obtain ⟨ab, ao, rfl⟩ := hl.some (k := 2 * q) (by rw [rowCells_length]; omega)
   obtain ⟨a0, a1⟩ := row_at (hl.below hbr (Nat.le_refl _)) hlt
   have rA := (hr _ (List.getElem_mem hlt)).below hbr
   have HN : Shut (Fits n k rows[q].says → ∀ r ∈ rows.take (q + 1), Fits n k r.says) := ⟨fun hf r hr' => by
    rw [List.take_succ_eq_append_getElem hlt] at hr'
    rcases List.mem_append.1 hr' with h | h
    ·exact HE.out r h
    ·simp at h; rw [h]; exact hf⟩
   have HX : Shut (¬ Fits n k rows[q].says → chkSys n k (rows.map MRow.says) = 4) := ⟨fun hf => chkSys_form HR.out (by simpa using HM.out) (i := q) (by simpa using hlt) fun ho => hf ⟨by have := ho.1; simp [hlt] at this; omega, by have := ho.2.1; simp [hlt] at this; omega⟩⟩
   generalize rows[q]'hlt = R at *
   have bd : Below wr.heap.size wr (wr.alloc (.cells #[R.hv, R.dv] 237)) := (Below.refl _ _).alloc (Nat.le_refl _) _
   obtain ⟨v0, v1⟩ := Box2.mk wr R.hv R.dv 237
   have y0 := cellC (cellC x0 hbr) bd
   have y1 := cellC (cellC x1 hbr) bd
   have y2 := cellC (cellC x2 hbr) bd
   have hF := fits_any n k (some ⟨ab, ao, none⟩) rows.length rc R _ (rA.below bd)
   have hb2 := hbr.trans (bd.mono hbr.size)
   clear HE bd rA hbr
   obtain ⟨ha, hc, rh, da, dc, rd⟩ := R
   simp only [MRow.hv, MRow.dv] at *
   go_wp2_with fail
   refine hF.mono ?_
   rintro e w2 ⟨rfl, hbF⟩
   have hb3 := hb2.trans (hbF.mono hb2.size)
   clear hF hbF hb2 y0 y1 y2 v0 v1 a0 a1
   by_cases hf : (rh.length : Int) = n ∧ (rd.length : Int) = k
   ·rw [decide_eq_true hf]
    have HN2 := Shut.mk (HN.out ⟨by show rh.length = n; omega, by show rd.length = k; omega⟩)
    clear HN HX hf
    go_wp2
    go_roundw
    case rel => exact ⟨q + 1, by omega, by go_num, HN2, hb3⟩
    case measure => simp [intOf]; omega
   ·rw [decide_eq_false hf]
    have HX2 := Shut.mk (HX.out fun hh => hf ⟨by have h := hh.1; simp only [MRow.says] at h; omega, by have h := hh.2; simp only [MRow.says] at h; omega⟩)
    clear HN HX hf
    go_wp2
    go_ret
    exact ⟨ret_int HX2.out.symm, hb.trans (hb3.mono hb.size)⟩
  ·have HA : Shut (∀ r ∈ rows, Fits n k r.says) := ⟨by have h := HE.out; rwa [List.take_of_length_le (by omega)] at h⟩
   have z2 := cellC x2 hbr
   clear HE
   go_wp2
   obtain ⟨W1, rfl⟩ : ∃ W1, W1 = wr := ⟨wr, rfl⟩
   clear hq hlt
   go_loopw [5, 48] (fun ah m wr => ∃ q : Nat, q ≤ rows.length ∧ m = .int .i64 q ∧ ah = .int .i64 (aheadI (rows.map MRow.says) q) ∧ Shut (∀ i, i < q → RowOk n k (rows.map MRow.says) i) ∧ Below W0.heap.size W0 wr) (fun _ m _ => rows.length - (intOf m).toNat)
   case atStart => exact ⟨0, Nat.zero_le _, rfl, rfl, ⟨fun i hi => by omega⟩, hbr⟩
   case round =>
    clear hbr z2
    obtain ⟨q, hq, rfl, rfl, HE, hbr⟩ := hrel
    have HAG := Shut.mk (aheadI_ge (rows.map MRow.says) q)
    by_cases hlt : q < rows.length
    ·obtain ⟨ab, ao, rfl⟩ := hl.some (k := 2 * q) (by rw [rowCells_length]; omega)
     obtain ⟨a0, a1⟩ := row_at (hl.below hbr (Nat.le_refl _)) hlt
     have rA := (hr _ (List.getElem_mem hlt)).below hbr
     have HQ : Shut ((rows.map MRow.says)[q]?.getD ([], []) = rows[q].says) := ⟨by simp [hlt]⟩
     have HF := Shut.mk (HA.out _ (List.getElem_mem hlt))
     have HAH : Shut (aheadI (rows.map MRow.says) (q + 1) = firstI rows[q].h) := ⟨by simp [aheadI, hlt, MRow.says]⟩
     have HNO : Shut (firstI rows[q].h ≤ aheadI (rows.map MRow.says) q → chkSys n k (rows.map MRow.says) = 4) := ⟨fun hle => chkSys_form HR.out (by simpa using HM.out) (i := q) (by simpa using hlt) fun ho => by
      have o1 := ho.2.2.1
      have o2 := ho.2.2.2.1
      rw [HQ.out] at o1 o2
      simp only [MRow.says] at o1 o2 hle
      unfold aheadI at hle
      split at hle
      ·omega
      ·have := o2 (by omega)
       omega⟩
     have HHO : Shut (∀ F : Nat, firstI rows[q].h = F → holdL (rows.map MRow.says) F ≠ 1 → chkSys n k (rows.map MRow.says) = 4) := ⟨fun F hF hne => chkSys_form HR.out (by simpa using HM.out) (i := q) (by simpa using hlt) fun ho => by
      refine hne ((hold_one (i := q) (by simpa using hlt) ?_).2 ?_)
      ·rw [List.getElem_map]
       exact (firstI_lead (r := rows[q].says).1 hF).1
      ·intro j hj hji
       have o3 := ho.2.2.2.2 j hj hji
       rw [HQ.out, getD_get hj] at o3
       simp only [MRow.says] at o3
       rw [hF] at o3
       simpa using o3⟩
     have HOK : Shut (∀ F : Nat, firstI rows[q].h = F → aheadI (rows.map MRow.says) q < F → holdL (rows.map MRow.says) F = 1 → ∀ i, i < q + 1 → RowOk n k (rows.map MRow.says) i) := ⟨fun F hF hgt h1 i hi => by
      by_cases e : i = q
      ·subst e
       refine ⟨by rw [HQ.out]; have := HF.out.1; omega, by rw [HQ.out]; have := HF.out.2; omega, by rw [HQ.out]; simp only [MRow.says]; omega, ?_, ?_⟩
       ·intro h0
        rw [HQ.out]
        simp only [MRow.says]
        unfold aheadI at hgt
        rw [if_neg (by omega)] at hgt
        rw [hF]
        exact hgt
       ·intro j hj hji
        have := (hold_one (A := rows.map MRow.says) (i := i) (f := F) (by simpa using hlt) (by rw [List.getElem_map]; exact (firstI_lead (r := rows[i].says).1 hF).1)).1 h1 j hj hji
        rw [HQ.out, getD_get hj]
        simp only [MRow.says]
        rw [hF]
        simpa using this
      ·exact HE.out i (by omega)⟩
     have hRN : ∀ r ∈ rows, r.h.length = n := fun r hr' => (HA.out r hr').1
     generalize rows[q]'hlt = R at *
     have bd : Below wr.heap.size wr (wr.alloc (.cells #[R.hv, R.dv] 237)) := (Below.refl _ _).alloc (Nat.le_refl _) _
     obtain ⟨v0, v1⟩ := Box2.mk wr R.hv R.dv 237
     have hC := first_any R _ (rA.below bd)
     have hb2 := hbr.trans (bd.mono hbr.size)
     have HFN := Shut.mk HF.out.1
     clear HE bd hbr HQ HF
     have hlen := firstI_lt R.h
     obtain ⟨ha, hc, rh, da, dc, rd⟩ := R
     simp only [MRow.hv, MRow.dv, MRow.says] at *
     rw [HFN.out] at hlen
     generalize aheadI (rows.map MRow.says) q = ah at *
     go_wp2_with fail
     refine hC.mono ?_
     rintro e w2 ⟨rfl, hbF⟩
     have hb3 := hb2.trans (hbF.mono hb2.size)
     clear hC hbF hb2 v0 v1 a0 a1 rA
     by_cases hle : firstI rh ≤ ah
     ·have HX := Shut.mk (HNO.out hle)
      clear HNO HHO HOK HAH hlen hl hr hRN
      generalize firstI rh = F at *
      go_wp2
      go_ret
      exact ⟨ret_int HX.out.symm, hb.trans (hb3.mono hb.size)⟩
     ·have HGE := HAG.out
      obtain ⟨F, hF⟩ : ∃ F : Nat, firstI rh = F := ⟨(firstI rh).toNat, by omega⟩
      have hFn : F < n := by omega
      have HH := holders_any (some ⟨ab, ao, none⟩) rc rows F n w2 (by omega) (hl.below hb3 (Nat.le_refl _)) (fun r hr' => (hr r hr').below hb3) hRN hFn h4
      replace HHO := Shut.mk (HHO.out F hF)
      replace HOK := Shut.mk (HOK.out F hF (by omega))
      have y2 := cellC x2 hb3
      rw [hF] at hle HAH ⊢
      clear HNO hF hlen hl hr hRN HGE
      go_wp2_with fail
      refine HH.mono ?_
      rintro e w3 ⟨rfl, hb4⟩
      have hb5 := hb3.trans (hb4.mono hb3.size)
      clear HH hb4 hb3 y2
      by_cases hone : holdL (rows.map MRow.says) F = 1
      ·have HN := Shut.mk (HOK.out hone)
       have e1 : (((holdL (rows.map MRow.says) F : Nat) : Int) != 1) = false := by simp [hone]
       clear hone HOK HHO
       generalize holdL (rows.map MRow.says) F = cn at *
       go_wp2
       go_roundw
       case rel => exact ⟨q + 1, by omega, by go_num, by rw [HAH.out], HN, hb5⟩
       case measure => simp [intOf]; omega
      ·have HX := Shut.mk (HHO.out hone)
       have e1 : (((holdL (rows.map MRow.says) F : Nat) : Int) != 1) = true := by simp; omega
       clear hone HOK HHO
       generalize holdL (rows.map MRow.says) F = cn at *
       go_wp2
       go_ret
       exact ⟨ret_int HX.out.symm, hb.trans (hb5.mono hb.size)⟩
    ·have HX : Shut (chkSys n k (rows.map MRow.says) = 0) := ⟨chkSys_ok HR.out (by simpa using HM.out) fun i hi => HE.out i (by simp at hi; omega)⟩
     clear HE HA hl hr HAG
     generalize aheadI (rows.map MRow.says) q = ah at *
     go_wp2
     go_ret
     exact ⟨ret_int HX.out.symm, hb.trans (hbr.mono hb.size)⟩

theorem checkS_any (s : MSys) (w : World) (hs : SysIn w s) :
  Calls Tryz.prog 159 #[.agg #[.int .i64 s.B, .int .i64 s.K, .slice s.ra s.rows.length s.rc]] w fun e w' => e = .returned (.int .i64 (chkSys s.B s.K (s.rows.map MRow.says))) ∧ Below w.heap.size w w' := by
 by_cases h1 : 1 ≤ s.B ∧ s.B ≤ 24 ∧ 1 ≤ s.K ∧ s.K ≤ 16
 ·by_cases h2 : s.B < s.rows.length
  ·rw [chkSys_many h1 (by simpa using h2)]
   exact checkS_many _ _ _ _ _ w h1 hs.2.2 h2
  ·obtain ⟨B, K, ra, rc, rows⟩ := s
   simp only at *
   obtain ⟨n, rfl⟩ : ∃ n : Nat, B = n := ⟨B.toNat, by omega⟩
   obtain ⟨k, rfl⟩ : ∃ k : Nat, K = k := ⟨K.toNat, by omega⟩
   exact checkS_rows n k ra rc rows w (by omega) (by omega) (by omega) hs.1 hs.2.1
 ·rw [chkSys_range h1]
  exact checkS_range _ _ _ _ _ w h1

end Go.Proofs.YtakkajjoeimkdaaGreatDoor
