/-
  slices.Insert of one row into a list of rows that has no room, ahead of others: its contract.
-/
import Derived.Test.YtclbmfjincekfabSlv7
namespace Go.Proofs.Ytclbmfjincekfab
open Go.RowKit
set_option linter.unusedVariables false
set_option linter.unusedSimpArgs false

theorem wpList_copy_run' {P : Program} (w : World) {ops : Array Oper} {rest : List Oper} {o : Oper} {a : Act} {Q : Exit → Act → World → Prop} (hgd : o.guard = none) (d s : Operand) (t t' : TypeId)
    (ho : o.op = .call { callee := .builtin .copy, args := #[d, s], argTypes := #[t, t'] }) (v u : Value) (hd : a.eval d = v) (hs : a.eval s = u) {v' : Value} {w' : World}
    (hr : (Builtin.copy_ #[t, t'] o.type #[v, u]).run P w = .ok v' w') (h : wpList P ops Q rest (a.put o.dst v') w') : wpList P ops Q (o :: rest) a w := by
  refine wpList_plain hgd fun K hK => ?_
  unfold Oper.wp execOp
  simp only [ho, resolve, invoke, builtin, Sem.run_bind, Sem.run_pure, Result.andThen_ok, List.map_toArray, List.map_cons, List.map_nil, hd, hs, hr]
  exact hK _ _ h

theorem step_copy_run' {P : Program} {ops : Array Oper} {o : Oper} {a : Act} {w : World} {K : Act → World → Prop} {Q : Exit → Act → World → Prop} {E : Prop} (hg : o.guard = none) (d x : Operand) (dT sT : TypeId)
    (hop : o.op = Op.call { callee := Callee.builtin Builtin.copy, args := #[d, x], argTypes := #[dT, sT] }) (v u : Value) (hd : a.eval d = v) (hx : a.eval x = u) {v' : Value} {w' : World} (hr : (Builtin.copy_ #[dT, sT] o.type #[v, u]).run P w = .ok v' w') (hK : K (a.put o.dst v') w') :
    if Region.wanted o (yielded ops a.tmps) = true then Oper.wp P o a w K Q else E := by
  have hw : Region.wanted o (yielded ops a.tmps) = true := by simp [Region.wanted, hg]
  rw [if_pos hw]
  unfold Oper.wp
  simp [execOp, hop, resolve, invoke, builtin, hd, hx, hr, Result.andThen]
  exact hK

theorem some_setCells (b : Nat) (vs : List Value) (o : Nat) (w : World) (h : ∀ j, j < vs.length → (w.cell? ⟨b, o + j, none⟩).isSome = true) (k : Nat) (hk : (w.cell? ⟨b, k, none⟩).isSome = true) : ((w.setCells b o vs).cell? ⟨b, k, none⟩).isSome = true := by
  by_cases hin : o ≤ k ∧ k < o + vs.length
  · have := World.cell?_setCells_in b vs o w h (k - o) (by omega)
    rw [show o + (k - o) = k by omega] at this
    rw [this]; rfl
  · rw [World.cell?_setCells_out b vs o w ⟨b, k, none⟩ (fun _ _ => by show k < o ∨ o + vs.length ≤ k; omega)]
    exact hk

/-- the new row among the others, by its cells -/
theorem insert_cells {W V : World} {G i m : Nat} {cs vs : List Value} (hi : i ≤ m) (hcs : cs.length = m * 2) (hvs : vs.length = 2) (hs : ∀ j, j < (m + 1) * 2 → (W.cell? ⟨G, j, none⟩).isSome = true) (h0 : ∀ j (hj : j < i * 2), W.cell? ⟨G, j, none⟩ = some (cs[j]'(by omega)))
    (hV : ∀ y, V.cell? y = (W.setCells G (i * 2) vs).cell? y) : Lies (V.setCells G ((i + 1) * 2) (cs.drop (i * 2))) (some ⟨G, 0, none⟩) (cs.take (i * 2) ++ vs ++ cs.drop (i * 2)) := by
  have hsV : ∀ j, j < (m + 1) * 2 → (V.cell? ⟨G, j, none⟩).isSome = true := fun j hj => by
    rw [hV]
    exact some_setCells _ _ _ _ (fun t ht => hs _ (by omega)) _ (hs j hj)
  have hdl : (cs.drop (i * 2)).length = (m - i) * 2 := by rw [List.length_drop]; omega
  refine Lies.mk fun k hk => ?_
  rw [Nat.zero_add]
  have hk' : k < (m + 1) * 2 := by simp [hcs, hvs] at hk; omega
  by_cases h1 : k < i * 2
  · rw [World.cell?_setCells_out _ _ _ _ _ (fun _ _ => by show k < (i + 1) * 2 ∨ _; omega), hV, World.cell?_setCells_out _ _ _ _ _ (fun _ _ => by show k < i * 2 ∨ _; omega), h0 k h1]
    rw [List.getElem_append_left (by simp [hcs, hvs]; omega), List.getElem_append_left (by rw [List.length_take]; omega), List.getElem_take]
  · by_cases h2 : k < (i + 1) * 2
    · rw [World.cell?_setCells_out _ _ _ _ _ (fun _ _ => by show k < (i + 1) * 2 ∨ _; omega), hV]
      have := World.cell?_setCells_in G vs (i * 2) W (fun j hj => hs _ (by omega)) (k - i * 2) (by omega)
      rw [show i * 2 + (k - i * 2) = k by omega] at this
      rw [this]
      congr 1
      rw [List.getElem_append_left (by simp [hcs, hvs]; omega), List.getElem_append_right (by rw [List.length_take]; omega)]
      congr 1
      rw [List.length_take]
      omega
    · have := World.cell?_setCells_in G (cs.drop (i * 2)) ((i + 1) * 2) V (fun j hj => hsV _ (by omega)) (k - (i + 1) * 2) (by omega)
      rw [show (i + 1) * 2 + (k - (i + 1) * 2) = k by omega] at this
      rw [this]
      congr 1
      rw [List.getElem_append_right (by simp [hcs, hvs]; omega)]
      congr 1
      simp [hcs, hvs]
      omega

set_option maxHeartbeats 4000000 in
set_option maxRecDepth 100000 in
theorem insert_mid (g m vb i : Nat) (R : List MRow) (x : MRow) (w : World) (hR : R.length = m) (hm : m ≤ 24) (hi : i < m) (hl : Lies w (some ⟨g, 0, none⟩) (rowCells R)) (hv : Lies w (some ⟨vb, 0, none⟩) (rowCells [x])) :
    Calls Try.prog 39 #[.slice (some ⟨g, 0, none⟩) m m, .int .i64 i, .slice (some ⟨vb, 0, none⟩) 1 1] w fun e w' =>
      ∃ (g' c' : Nat), e = .returned (.slice (some ⟨g', 0, none⟩) (m + 1) c') ∧ Lies w' (some ⟨g', 0, none⟩) (rowCells (R.take i ++ x :: R.drop i)) ∧ Below w.heap.size w w' ∧ w.heap.size ≤ g' := by
  obtain ⟨i0, hi0, hz0, hzs, hzb⟩ := info_parts infoRow'
  have hsz : (Try.prog.info? 29).map (·.size) = some 2 := by rw [hi0]; simp [hzs]
  have hcl : (rowCells R).length = m * 2 := by rw [rowCells_length]; omega
  have hgw : g < w.heap.size := World.block_lt_of_cell? w _ (hl.at (k := 0) (List.getElem?_eq_getElem (by omega)))
  have hvw : vb < w.heap.size := World.block_lt_of_cell? w _ (hv.at (k := 0) (List.getElem?_eq_getElem (by simp [rowCells])))
  have hkk : (m : Int) + 1 - (i : Int) = ((m + 1 - i : Nat) : Int) := by omega
  have hik : i + (m + 1 - i) = m + 1 := by omega
  have hold : (Builtin.firstCells i0.size i (.slice (some ⟨g, 0, none⟩) i m)).run Try.prog w.drew = .ok ((rowCells R).take (i * 2)).toArray w.drew := by
    rw [hzs]
    exact run_firstCells_some w.drew 2 i ⟨g, 0, none⟩ i m ((rowCells R).take (i * 2)) (by rw [List.length_take]; omega) (fun j v hj => by
      rw [Addr.add_lit]
      rw [List.getElem?_take] at hj
      split at hj
      · exact hl.at hj
      · cases hj)
  obtain ⟨G, hG⟩ : ∃ G, G = grownCap w (m + 1) m 29 := ⟨_, rfl⟩
  have hGn : m + 1 ≤ G := by rw [hG]; exact grownCap_ge w _ _ _
  have hG63 : G ≤ 9223372036854775807 := by
    have := grownCap_le_maxLen w (m + 1) m 29 (by unfold maxLen; omega)
    rw [← hG] at this
    unfold maxLen at this
    omega
  obtain ⟨ROW, hROW⟩ : ∃ ROW : Array Value, ROW = ((rowCells R).take (i * 2)).toArray ++ Builtin.zeroCells (Value.agg #[.slice none 0 0, .slice none 0 0]).cells (m + 1 - i) ++ Builtin.zeroCells (Value.agg #[.slice none 0 0, .slice none 0 0]).cells (G - (m + 1)) := ⟨_, rfl⟩
  have hrz : ∀ ty, (Builtin.append_ #[22, 3] ty #[.slice (some ⟨g, 0, none⟩) i m, .int .i64 ((m : Int) + 1 - (i : Int))]).run Try.prog w =
      .ok (.slice (some ⟨w.heap.size, 0, none⟩) (m + 1) G) (w.drew.alloc (.cells ROW 29)) := fun ty => by
    have h := Lib.run_append_grow_zeros w 22 3 ty 29 i0 _ .i64 .i64 Try.underlying22 Try.underlying3 hi0 hz0 (some ⟨g, 0, none⟩) i m ((rowCells R).take (i * 2)) hold (m + 1 - i) (by omega) (by omega) (by omega) (by omega) (by rw [hzb]; omega) (by rw [hzb, hik]; exact growslice_fits (by omega) (by omega))
    rw [hik, ← hG, ← hROW] at h
    rw [hkk]
    exact h
  have hRl : (m + 1) * 2 ≤ ROW.size := by
    rw [hROW]
    simp [Builtin.zeroCells, Value.cells, hcl]
    omega
  have hR0 : ∀ j (hj : j < i * 2), ROW[j]? = some ((rowCells R)[j]'(by omega)) := fun j hj => by
    rw [hROW, Array.append_assoc, Array.getElem?_append_left (by simp [hcl]; omega)]
    simp [List.getElem?_take, hj, show j < (rowCells R).length by omega]
  obtain ⟨W1, hW1⟩ : ∃ W1, W1 = w.drew.alloc (.cells ROW 29) := ⟨_, rfl⟩
  have hb1 : Below w.heap.size w W1 := by rw [hW1]; exact ((Below.refl _ _).drew).alloc (by simp) _
  have hblk : W1.heap[w.heap.size]? = some (.cells ROW 29 (0, 0)) := by rw [hW1, heap_alloc_eq, if_pos (by rfl)]
  have hN : ∀ j, j < (m + 1) * 2 → (W1.cell? ⟨w.heap.size, j, none⟩).isSome = true := fun j hj => by
    simp only [World.cell?, hblk]
    rw [Array.getElem?_eq_getElem (by omega)]; rfl
  have hN0 : ∀ j (hj : j < i * 2), W1.cell? ⟨w.heap.size, j, none⟩ = some ((rowCells R)[j]'(by omega)) := fun j hj => by
    simp only [World.cell?, hblk]
    exact hR0 j hj
  have hNf : ∀ j, W1.frozen? ⟨w.heap.size, j, none⟩ = false := fun j => by simp only [World.frozen?, hblk]; simp
  have hl1 := hl.below hb1 (Nat.le_refl _)
  have hv1 := hv.below hb1 (Nat.le_refl _)
  have hvl : (rowCells [x]).length = 2 := rfl
  have hdl : ((rowCells R).drop (i * 2)).length = (m - i) * 2 := by rw [List.length_drop, hcl]; omega
  have hcpA : ∀ (W : World), (∀ y, W.cell? y = W1.cell? y) → (∀ y, W.frozen? y = W1.frozen? y) → ∀ ty dc, (Builtin.copy_ #[22, 22] ty #[.slice (some ⟨w.heap.size, i * 2, none⟩) (m + 1 - i) dc, .slice (some ⟨vb, 0, none⟩) 1 1]).run Try.prog W = .ok (goInt 1) (W.setCells w.heap.size (i * 2) (rowCells [x])) := fun W hWc hWf ty dc =>
    run_copy2 W _ _ ty 29 w.heap.size (i * 2) (m + 1 - i) dc ⟨vb, 0, none⟩ 1 1 1 (rowCells [x]) Try.underlying22 hsz (by simp only [Nat.min_def]; split <;> omega) rfl
      (fun j v hj => by rw [Addr.add_lit, hWc]; exact hv1.at hj)
      (fun j hj => by rw [hWc]; exact hN _ (by omega)) (fun j hj => by rw [hWf]; exact hNf _) (rowCells_one' _)
  have hcpB : ∀ (W : World), (∀ y, W.cell? y = (W1.setCells w.heap.size (i * 2) (rowCells [x])).cell? y) → (∀ y, W.frozen? y = (W1.setCells w.heap.size (i * 2) (rowCells [x])).frozen? y) → ∀ ty dc sc, (Builtin.copy_ #[22, 22] ty #[.slice (some ⟨w.heap.size, (i + 1) * 2, none⟩) (m + 1 - (i + 1)) dc, .slice (some ⟨g, i * 2, none⟩) (m - i) sc]).run Try.prog W = .ok (goInt ((m - i : Nat) : Int)) (W.setCells w.heap.size ((i + 1) * 2) ((rowCells R).drop (i * 2))) := fun W hWc hWf ty dc sc =>
    run_copy2 W _ _ ty 29 w.heap.size ((i + 1) * 2) (m + 1 - (i + 1)) dc ⟨g, i * 2, none⟩ (m - i) sc (m - i) ((rowCells R).drop (i * 2)) Try.underlying22 hsz (by simp only [Nat.min_def]; split <;> omega) hdl
      (fun j v hj => by
        rw [Addr.add_lit, hWc, World.cell?_setCells_out _ _ _ _ _ (fun h _ => absurd h (by show g ≠ w.heap.size; omega))]
        have := hl1.at (k := i * 2 + j) (u := v) (by rwa [List.getElem?_drop] at hj)
        simpa using this)
      (fun j hj => by rw [hWc]; exact some_setCells _ _ _ _ (fun t ht => hN _ (by omega)) _ (hN _ (by omega)))
      (fun j hj => by rw [hWf, World.frozen?_setCells]; exact hNf _) (fun v hv => rowCells_one' _ v (List.mem_of_mem_drop hv))
  have HF : Shut (∀ (A V : World), (∀ y, A.cell? y = W1.cell? y) → (∀ y, V.cell? y = (A.setCells w.heap.size (i * 2) (rowCells [x])).cell? y) → Lies (V.setCells w.heap.size ((i + 1) * 2) ((rowCells R).drop (i * 2))) (some ⟨w.heap.size, 0, none⟩) (rowCells (R.take i ++ x :: R.drop i))) := ⟨fun A V hA hV => by
    have h := insert_cells (W := A) (V := V) (G := w.heap.size) (i := i) (m := m) (cs := rowCells R) (vs := rowCells [x]) (by omega) hcl hvl (fun j hj => by rw [hA]; exact hN j hj) (fun j hj => by rw [hA]; exact hN0 j hj) hV
    have e : rowCells (R.take i ++ x :: R.drop i) = (rowCells R).take (i * 2) ++ rowCells [x] ++ (rowCells R).drop (i * 2) := by
      rw [show R.take i ++ x :: R.drop i = R.take i ++ [x] ++ R.drop i by simp, rowCells_append, rowCells_append, rowCells_take, rowCells_drop, Nat.mul_comm]
    rw [e]
    exact h⟩
  have HB := Shut.mk hb1
  have hz2 : ¬ (i = m) := by omega
  have hz3 : ¬ (m + 1 ≤ m) := by omega
  have hGi : ¬ (G = i) := by omega
  have hGim : ¬ (G = i + 1) := by omega
  have hci : ¬ (m = i) := by omega
  have hw1 : IntKind.i64.wrap ((i : Int) + 1) = (i : Int) + 1 := by rw [IntKind.wrap_i64]; omega
  have hb1' : (0 : Int) ≤ (i : Int) + 1 := by omega
  have hin : i ≤ m := by omega
  have htn : ((i : Int) + 1).toNat = i + 1 := by omega
  rw [← hW1] at hrz
  subst hW1
  clear hkk hik hold hROW hG hRl hl hv hl1 hv1 hN hN0 hNf hblk hR0 hb1 hdl hcl hvl
  have hA := hcpA ((w.alloc (.cells ROW 29)).drew) (fun _ => rfl) (fun _ => rfl) 3 (G - i)
  have hBq := hcpB ((((w.alloc (.cells ROW 29)).drew).setCells w.heap.size (i * 2) (rowCells [x])).drew) (fun _ => rfl) (fun _ => rfl) 3 (G - (i + 1)) (m - i)
  have HL := Shut.mk (HF.out ((w.alloc (.cells ROW 29)).drew) ((((w.alloc (.cells ROW 29)).drew).setCells w.heap.size (i * 2) (rowCells [x])).drew) (fun _ => rfl) (fun _ => rfl))
  have HB2 : Shut (Below w.heap.size w (((((w.alloc (.cells ROW 29)).drew).setCells w.heap.size (i * 2) (rowCells [x])).drew).setCells w.heap.size ((i + 1) * 2) ((rowCells R).drop (i * 2)))) := ⟨below_setCells _ (Nat.le_refl _) _ _ _ ((below_setCells _ (Nat.le_refl _) _ _ _ (((Below.refl _ _).alloc (Nat.le_refl _) _).drew)).drew)⟩
  clear hcpA hcpB HF HB
  go_enter Try.func39, Try.ntmps39
  go_wp2_with (at_builtin; refine Lib.wpList_append_run _ rfl _ _ _ _ rfl _ _ rfl rfl _ _ (hrz _) ?_)
  go_region_law (refine step_copy_run' rfl _ _ 22 22 rfl (.slice (some ⟨w.heap.size, (i + 1) * 2, none⟩) (m + 1 - (i + 1)) (G - (i + 1))) (.slice (some ⟨g, i * 2, none⟩) (m - i) (m - i)) (by simp [Act.eval, Act.put]) (by simp [Act.eval, Act.put]) hBq ?_)
  all_goals
    go_wp2
    go_ret
    exact ⟨_, _, rfl, HL.out, HB2.out, Nat.le_refl _⟩

/-- slices.Insert of one row -/
theorem insertS_any (g m vb i : Nat) (R : List MRow) (x : MRow) (w : World) (hR : R.length = m) (hm : m ≤ 24) (hi : i ≤ m) (hl : Lies w (some ⟨g, 0, none⟩) (rowCells R)) (hv : Lies w (some ⟨vb, 0, none⟩) (rowCells [x])) :
    Calls Try.prog 39 #[.slice (some ⟨g, 0, none⟩) m m, .int .i64 i, .slice (some ⟨vb, 0, none⟩) 1 1] w fun e w' =>
      ∃ (g' c' : Nat), e = .returned (.slice (some ⟨g', 0, none⟩) (m + 1) c') ∧ Lies w' (some ⟨g', 0, none⟩) (rowCells (R.take i ++ x :: R.drop i)) ∧ Below w.heap.size w w' ∧ w.heap.size ≤ g' := by
  by_cases h : i = m
  · subst h
    have := insert_end g i vb R x w hR hm hl hv
    rw [List.take_of_length_le (by omega), List.drop_of_length_le (by omega)]
    exact this
  · exact insert_mid g m vb i R x w hR hm (by omega) hl hv

end Go.Proofs.Ytclbmfjincekfab
