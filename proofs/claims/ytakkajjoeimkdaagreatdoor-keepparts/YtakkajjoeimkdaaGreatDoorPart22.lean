import Derived.Test.YtakkajjoeimkdaaGreatDoorPart21
import Derived.Test.YtakkajjoeimkdaaGreatDoorPart10
import Derived.Maps.AppendAt
import Derived.Lib.Overlaps
namespace Go.Proofs.YtakkajjoeimkdaaGreatDoor
open Go.RowKit
set_option linter.unusedVariables false
set_option linter.unusedSimpArgs false

theorem run_copy16 {P : Program} (w : World) (dT sT ty elem : TypeId) (b o dLen dCap : Nat) (a : Addr) (sLen sCap m : Nat) (cs : List Value)
  (hu : P.underlying dT = some (.slice elem)) (hs : (P.info? elem).map (·.size) = some 16) (hm : Nat.min sLen dLen = m) (hn : cs.length = m * 16)
  (hsrc : ∀ j v, cs[j]? = some v → w.cell? (a.add j) = some v) (hc : ∀ j, j < cs.length → (w.cell? ⟨b, o + j, none⟩).isSome = true) (hf : ∀ j, j < cs.length → w.frozen? ⟨b, o + j, none⟩ = false) (h1 : ∀ v ∈ cs, v.oneCell' = true) :
  (Builtin.copy_ #[dT, sT] ty #[.slice (some ⟨b, o, none⟩) dLen dCap, .slice (some a) sLen sCap]).run P w = .ok (goInt m) (w.setCells b o cs) := by
 have hl := run_loadCells_list (P := P) w a cs hsrc
 have hst := run_storeCells_cells (P := P) b o cs 0 w (by simpa using hc) (by simpa using hf) h1
 cases hq : P.info? elem with
 | none => simp [hq] at hs
 | some i =>
  have hi : i.size = 16 := by simpa [hq] using hs
  simp [Builtin.copy_, run_underlying hu, Builtin.lenOf, Builtin.firstCells, sizeOf, typeInfo, hq, hi, hm, ← hn, hl, hst]

def InsR (B : Nat) (w : World) (p : Option Addr) (n cp : Nat) (zs : List Value) (e : Ending) (w' : World) : Prop :=
 ∃ (g' c' : Nat), e = .returned (.slice (some ⟨g', 0, none⟩) (n + 1) c') ∧ Shut (w'.ownsRow B 88 16 (.slice (some ⟨g', 0, none⟩) (n + 1) c') (n + 1) zs ∧ w.grownBy w' (Value.slice p n cp).ownBlock ∧ (p = some ⟨g', 0, none⟩ ∨ w.heap.size ≤ g'))

theorem kpCells_take : ∀ (R : List MKp) (i : Nat), kpCells (R.take i) = (kpCells R).take (i * 16)
 | [], i => by simp [kpCells]
 | r :: R, 0 => by simp [kpCells]
 | r :: R, i + 1 => by
  have ih := kpCells_take R i
  have ht : r.cells.take ((i + 1) * 16) = r.cells := List.take_of_length_le (by show 16 ≤ _; omega)
  rw [List.take_succ_cons, kpCells_cons, kpCells_cons, ih, List.take_append, show r.cells.length = 16 from rfl, show (i + 1) * 16 - 16 = i * 16 by omega, ht]

theorem kpCells_drop : ∀ (R : List MKp) (i : Nat), kpCells (R.drop i) = (kpCells R).drop (i * 16)
 | [], i => by simp [kpCells]
 | r :: R, 0 => by simp [kpCells]
 | r :: R, i + 1 => by
  have ih := kpCells_drop R i
  have ht : r.cells.drop ((i + 1) * 16) = [] := List.drop_eq_nil_of_le (by show 16 ≤ _; omega)
  rw [List.drop_succ_cons, kpCells_cons, ih, List.drop_append, show r.cells.length = 16 from rfl, show (i + 1) * 16 - 16 = i * 16 by omega, ht, List.nil_append]

theorem kpCells_ins (R : List MKp) (i : Nat) (x : MKp) : kpCells (R.take i ++ x :: R.drop i) = (kpCells R).take (i * 16) ++ x.cells ++ (kpCells R).drop (i * 16) := by
 rw [kpCells_append, kpCells_cons, kpCells_take, kpCells_drop, List.append_assoc]

theorem own_ins {w : World} {B i n g c : Nat} {cs xs : List Value} {zs : List Value} (hxl : xs.length = 16) (h : w.ownsRow B 88 16 (.slice (some ⟨g, 0, none⟩) (n + 1) c) (n + 1) zs) (hcl : cs.length = n * 16) (hi : i ≤ n) (hz : zs.take (i * 16) = cs.take (i * 16)) :
  (((w.setCells g (i * 16) xs).setCells g ((i + 1) * 16) (cs.drop (i * 16))).ownsRow B 88 16 (.slice (some ⟨g, 0, none⟩) (n + 1) c) (n + 1) (cs.take (i * 16) ++ xs ++ cs.drop (i * 16))) ∧
  (((w.setCells g ((i + 1) * 16) (cs.drop (i * 16))).setCells g (i * 16) xs).ownsRow B 88 16 (.slice (some ⟨g, 0, none⟩) (n + 1) c) (n + 1) (cs.take (i * 16) ++ xs ++ cs.drop (i * 16))) := by
 have hzl : zs.length = (n + 1) * 16 := h.1
 have hdl : (cs.drop (i * 16)).length = (n - i) * 16 := by rw [List.length_drop]; omega
 have htl : (zs.take (i * 16)).length = i * 16 := by rw [List.length_take]; omega
 have e0 : i * 16 + 16 = (i + 1) * 16 := by omega
 rw [← hz]
 constructor
 ·have h1 := own_setRun h xs (i * 16) (by rw [hxl]; omega)
  have h2 := own_setRun h1 (cs.drop (i * 16)) ((i + 1) * 16) (by rw [hdl]; omega)
  rw [hxl, e0] at h2
  have e1 : (zs.take (i * 16) ++ xs ++ zs.drop ((i + 1) * 16)).take ((i + 1) * 16) = zs.take (i * 16) ++ xs := by
   rw [List.take_append_of_le_length (by rw [List.length_append, htl, hxl]; omega), List.take_of_length_le (by rw [List.length_append, htl, hxl]; omega)]
  have e2 : (zs.take (i * 16) ++ xs ++ zs.drop ((i + 1) * 16)).drop ((i + 1) * 16 + (cs.drop (i * 16)).length) = [] := List.drop_eq_nil_of_le (by
   rw [List.length_append, List.length_append, htl, hxl, List.length_drop, hdl]; omega)
  rw [e1, e2, List.append_nil] at h2
  exact h2
 ·have h1 := own_setRun h (cs.drop (i * 16)) ((i + 1) * 16) (by rw [hdl]; omega)
  have h2 := own_setRun h1 xs (i * 16) (by rw [hxl]; omega)
  rw [hxl, e0] at h2
  have e1 : (zs.take ((i + 1) * 16) ++ cs.drop (i * 16) ++ zs.drop ((i + 1) * 16 + (cs.drop (i * 16)).length)).take (i * 16) = zs.take (i * 16) := by
   rw [List.append_assoc, List.take_append_of_le_length (by rw [List.length_take]; omega), List.take_take, Nat.min_eq_left (by omega)]
  have e2 : (zs.take ((i + 1) * 16) ++ cs.drop (i * 16) ++ zs.drop ((i + 1) * 16 + (cs.drop (i * 16)).length)).drop ((i + 1) * 16) = cs.drop (i * 16) := by
   have l1 : (zs.take ((i + 1) * 16)).length = (i + 1) * 16 := by rw [List.length_take]; omega
   have l2 : (zs.take ((i + 1) * 16)).drop ((i + 1) * 16) = [] := List.drop_eq_nil_of_le (by omega)
   have l3 : zs.drop ((i + 1) * 16 + (cs.drop (i * 16)).length) = [] := List.drop_eq_nil_of_le (by rw [hdl]; omega)
   rw [List.append_assoc, List.drop_append, l1, Nat.sub_self, List.drop_zero, l2, List.nil_append, l3, List.append_nil]
  rw [e1, e2] at h2
  exact h2

theorem drewCells (b : Nat) : ∀ (vs : List Value) (o : Nat) (w : World), (w.setCells b o vs).drew = w.drew.setCells b o vs
 | [], _, _ => rfl
 | v :: r, o, w => by rw [World.setCells, World.setCells, drewCells b r]; rfl

theorem grown_setRun (g : Nat) : ∀ (vs : List Value) (o : Nat) (w u : World), w.grownBy u (some g) → w.grownBy (u.setCells g o vs) (some g)
 | [], _, _, _, h => h
 | v :: r, o, w, u, h => grown_setRun g r (o + 1) w _ (grown_set h o v)

theorem info_ins : ∃ i, Tryz.prog.info? 88 = some i ∧ i.zero = some (.agg #[.int .i64 0, .int .i64 0, .int .i64 0, .int .i64 0, .int .i64 0, .int .i64 0, .bool false, .slice none 0 0, .slice none 0 0, .int .i64 0, .int .i64 0, .int .i64 0, .int .i64 0, .slice none 0 0, .bool false, .bool false]) ∧ i.size = 16 ∧ i.bytes = 168 := by
 have h0 := info_cloneP
 cases hh : Tryz.prog.info? 88 with
 | none => rw [hh] at h0; cases h0
 | some i =>
  rw [hh] at h0
  simp only [Option.map_some, Option.some.injEq, Prod.mk.injEq] at h0
  exact ⟨i, rfl, h0.1, h0.2.1, h0.2.2⟩

theorem kpCells_append1 (R : List MKp) (x : MKp) : kpCells R ++ x.cells = kpCells (R ++ [x]) := by rw [kpCells_append]; show _ = kpCells R ++ (x.cells ++ []); rw [List.append_nil]

theorem kp1_one (x : MKp) : ∀ u ∈ x.cells, u.oneCell' = true := fun u hu => List.all_eq_true.1 (show x.cells.all (fun v => v.oneCell') = true from rfl) u hu

set_option maxHeartbeats 4000000 in
set_option maxRecDepth 100000 in
theorem insertK_end (B : Nat) (p : Option Addr) (n cp vb : Nat) (cs xs : List Value) (w : World) (hm : n ≤ 12) (hB : B ≤ w.heap.size) (hown : w.ownsRow B 88 16 (.slice p n cp) n cs) (hxl : xs.length = 16) (hx1 : ∀ v ∈ xs, v.oneCell' = true) (hv : Lies w (some ⟨vb, 0, none⟩) xs) :
  Calls Tryz.prog 130 #[.slice p n cp, .int .i64 n, .slice (some ⟨vb, 0, none⟩) 1 1] w (InsR B w p n cp (cs ++ xs)) := by
 obtain ⟨i0, hii, hz0, hz1, hz2⟩ := info_ins
 have hcap : n ≤ cp := by
  obtain ⟨_, _, e1, _, e3⟩ := own_gen hown
  simp only [Value.slice.injEq] at e1
  omega
 have HW := Shut.mk hown
 clear hown
 go_enter Tryz.func130, Tryz.ntmps130
 go_wp2_with (first | (at_builtin; refine wpList_append_own_at _ rfl _ _ 23 rfl B 88 i0 (.agg #[.int .i64 0, .int .i64 0, .int .i64 0, .int .i64 0, .int .i64 0, .int .i64 0, .bool false, .slice none 0 0, .slice none 0 0, .int .i64 0, .int .i64 0, .int .i64 0, .int .i64 0, .slice none 0 0, .bool false, .bool false]) 16 168 Tryz.underlying23 hii hz0 hz1 hz2 rfl (by decide) _ n cs rfl HW.out ⟨vb, 0, none⟩ 1 1 xs rfl (by rw [hxl]) (fun j u hj => by rw [Addr.add_lit]; exact hv.at hj) hx1 (by unfold maxLen; omega) (by omega) hB ?_) | fail)
 all_goals
  intro v' w' hown' hgrow _ hvv
  have hob : ∀ c1 c2, (Value.slice p n c1).ownBlock = (Value.slice p n c2).ownBlock := fun _ _ => by cases p <;> rfl
  have R' : ∃ (g' c' : Nat), v' = .slice (some ⟨g', 0, none⟩) (n + 1) c' ∧ Shut (w'.ownsRow B 88 16 (.slice (some ⟨g', 0, none⟩) (n + 1) c') (n + 1) (cs ++ xs) ∧ w.grownBy w' (Value.slice p n cp).ownBlock ∧ (p = some ⟨g', 0, none⟩ ∨ w.heap.size ≤ g')) := by
   rcases hown'.2 with ⟨_, h0⟩ | ⟨g', c', cur, rfl, _⟩
   ·omega
   ·refine ⟨g', c', rfl, ⟨hown', by rw [hob cp]; exact hgrow, ?_⟩⟩
    rcases hvv with h | h
    ·exact .inl (own_plain HW.out ((hob _ _).trans h.symm))
    ·simp only [Value.ownBlock, Option.some.injEq] at h
     exact .inr (Nat.le_of_eq h.symm)
  obtain ⟨g', c', rfl, H⟩ := R'
  clear hown' hgrow hvv
  go_wp2
  go_ret
  exact ⟨g', c', rfl, H⟩

set_option maxHeartbeats 8000000 in
set_option maxRecDepth 100000 in
theorem insertK_mid (B g m vb i : Nat) (cs xs : List Value) (w : World) (hcl : cs.length = m * 16) (hm : m ≤ 12) (hi : i < m) (hB : B ≤ w.heap.size) (hl : Lies w (some ⟨g, 0, none⟩) cs) (hc1 : ∀ v ∈ cs, v.oneCell' = true) (hvl : xs.length = 16) (hx1 : ∀ v ∈ xs, v.oneCell' = true) (hv : Lies w (some ⟨vb, 0, none⟩) xs) :
  Calls Tryz.prog 130 #[.slice (some ⟨g, 0, none⟩) m m, .int .i64 i, .slice (some ⟨vb, 0, none⟩) 1 1] w (InsR B w (some ⟨g, 0, none⟩) m m (cs.take (i * 16) ++ xs ++ cs.drop (i * 16))) := by
 obtain ⟨i0, hi0, hz0, hzs, hzb⟩ := info_ins
 have hsz : (Tryz.prog.info? 88).map (·.size) = some 16 := by rw [hi0]; simp [hzs]
 have hgw : g < w.heap.size := World.block_lt_of_cell? w _ (hl.at (k := 0) (List.getElem?_eq_getElem (by omega)))
 have hvw : vb < w.heap.size := World.block_lt_of_cell? w _ (hv.at (k := 0) (List.getElem?_eq_getElem (by omega)))
 have hkk : (m : Int) + 1 - (i : Int) = ((m + 1 - i : Nat) : Int) := by omega
 have hik : i + (m + 1 - i) = m + 1 := by omega
 have hold : (Builtin.firstCells i0.size i (.slice (some ⟨g, 0, none⟩) i m)).run Tryz.prog w.drew = .ok (cs.take (i * 16)).toArray w.drew := by
  rw [hzs]
  exact run_firstCells_some w.drew 16 i ⟨g, 0, none⟩ i m (cs.take (i * 16)) (by rw [List.length_take]; omega) (fun j v hj => by
   rw [Addr.add_lit]
   rw [List.getElem?_take] at hj
   split at hj
   ·exact hl.at hj
   ·cases hj)
 obtain ⟨G, hG⟩ : ∃ G, G = grownCap w (m + 1) m 88 := ⟨_, rfl⟩
 have hGn : m + 1 ≤ G := by rw [hG]; exact grownCap_ge w _ _ _
 have hGm : G ≤ maxLen := by rw [hG]; exact grownCap_le_maxLen w (m + 1) m 88 (by unfold maxLen; omega)
 have hG63 : G ≤ 9223372036854775807 := by unfold maxLen at hGm; omega
 obtain ⟨ROW, hROW⟩ : ∃ ROW : Array Value, ROW = (cs.take (i * 16)).toArray ++ Builtin.zeroCells (.agg #[.int .i64 0, .int .i64 0, .int .i64 0, .int .i64 0, .int .i64 0, .int .i64 0, .bool false, .slice none 0 0, .slice none 0 0, .int .i64 0, .int .i64 0, .int .i64 0, .int .i64 0, .slice none 0 0, .bool false, .bool false] : Value).cells (m + 1 - i) ++ Builtin.zeroCells (.agg #[.int .i64 0, .int .i64 0, .int .i64 0, .int .i64 0, .int .i64 0, .int .i64 0, .bool false, .slice none 0 0, .slice none 0 0, .int .i64 0, .int .i64 0, .int .i64 0, .int .i64 0, .slice none 0 0, .bool false, .bool false] : Value).cells (G - (m + 1)) := ⟨_, rfl⟩
 have hrz : ∀ ty, (Builtin.append_ #[23, 3] ty #[.slice (some ⟨g, 0, none⟩) i m, .int .i64 ((m : Int) + 1 - (i : Int))]).run Tryz.prog w =
   .ok (.slice (some ⟨w.heap.size, 0, none⟩) (m + 1) G) (w.drew.alloc (.cells ROW 88)) := fun ty => by
  have h := Lib.run_append_grow_zeros w 23 3 ty 88 i0 _ .i64 .i64 Tryz.underlying23 Tryz.underlying3 hi0 hz0 (some ⟨g, 0, none⟩) i m (cs.take (i * 16)) hold (m + 1 - i) (by omega) (by omega) (by omega) (by omega) (by rw [hzb]; omega) (by rw [hzb, hik]; exact growslice_fits (by omega) (by omega))
  rw [hik, ← hG, ← hROW] at h
  rw [hkk]
  exact h
 have hRs : ROW.size = G * 16 := by
  rw [hROW]
  simp [Builtin.zeroCells, Value.cells, hcl]
  omega
 have hR0 : ROW.toList.take (i * 16) = cs.take (i * 16) := by
  rw [hROW, Array.append_assoc, Array.toList_append, List.take_append_of_le_length (by simp [hcl]; omega)]
  show List.take (i * 16) (cs.take (i * 16)) = _
  rw [List.take_take, Nat.min_self]
 obtain ⟨W1, hW1⟩ : ∃ W1, W1 = w.drew.alloc (.cells ROW 88) := ⟨_, rfl⟩
 have hb1 : Below w.heap.size w W1 := by rw [hW1]; exact ((Below.refl _ _).drew).alloc (by simp) _
 have hblk : W1.heap[w.heap.size]? = some (.cells ROW 88 (0, 0)) := by rw [hW1, heap_alloc_eq, if_pos (by rfl)]
 have hN : ∀ j, j < (m + 1) * 16 → (W1.cell? ⟨w.heap.size, j, none⟩).isSome = true := fun j hj => by
  simp only [World.cell?, hblk]
  rw [Array.getElem?_eq_getElem (by omega)]; rfl
 have hNf : ∀ j, W1.frozen? ⟨w.heap.size, j, none⟩ = false := fun j => by simp only [World.frozen?, hblk]; simp
 have ow1 : W1.ownsRow B 88 16 (.slice (some ⟨w.heap.size, 0, none⟩) (m + 1) G) (m + 1) (ROW.toList.take ((m + 1) * 16)) :=
  ⟨by rw [List.length_take]; simp; omega, .inr ⟨w.heap.size, G, ROW, rfl, hB, hblk, hGn, hGm, hRs, rfl⟩⟩
 have hl1 := hl.below hb1 (Nat.le_refl _)
 have hv1 := hv.below hb1 (Nat.le_refl _)
 have hdl : (cs.drop (i * 16)).length = (m - i) * 16 := by rw [List.length_drop, hcl]; omega
 have hcpA : ∀ (W : World), (∀ y, W.cell? y = W1.cell? y) → (∀ y, W.frozen? y = W1.frozen? y) → ∀ ty dc, (Builtin.copy_ #[23, 23] ty #[.slice (some ⟨w.heap.size, i * 16, none⟩) (m + 1 - i) dc, .slice (some ⟨vb, 0, none⟩) 1 1]).run Tryz.prog W = .ok (goInt 1) (W.setCells w.heap.size (i * 16) xs) := fun W hWc hWf ty dc =>
  run_copy16 W _ _ ty 88 w.heap.size (i * 16) (m + 1 - i) dc ⟨vb, 0, none⟩ 1 1 1 xs Tryz.underlying23 hsz (by simp only [Nat.min_def]; split <;> omega) (by rw [hvl])
   (fun j v hj => by rw [Addr.add_lit, hWc]; exact hv1.at hj)
   (fun j hj => by rw [hWc]; exact hN _ (by omega)) (fun j hj => by rw [hWf]; exact hNf _) hx1
 have hcpB : ∀ (W : World), (∀ y, W.cell? y = (W1.setCells w.heap.size (i * 16) xs).cell? y) → (∀ y, W.frozen? y = (W1.setCells w.heap.size (i * 16) xs).frozen? y) → ∀ ty dc sc, (Builtin.copy_ #[23, 23] ty #[.slice (some ⟨w.heap.size, (i + 1) * 16, none⟩) (m + 1 - (i + 1)) dc, .slice (some ⟨g, i * 16, none⟩) (m - i) sc]).run Tryz.prog W = .ok (goInt ((m - i : Nat) : Int)) (W.setCells w.heap.size ((i + 1) * 16) (cs.drop (i * 16))) := fun W hWc hWf ty dc sc =>
  run_copy16 W _ _ ty 88 w.heap.size ((i + 1) * 16) (m + 1 - (i + 1)) dc ⟨g, i * 16, none⟩ (m - i) sc (m - i) (cs.drop (i * 16)) Tryz.underlying23 hsz (by simp only [Nat.min_def]; split <;> omega) hdl
   (fun j v hj => by
    rw [Addr.add_lit, hWc, World.cell?_setCells_out _ _ _ _ _ (fun h _ => absurd h (by show g ≠ w.heap.size; omega))]
    have := hl1.at (k := i * 16 + j) (u := v) (by rwa [List.getElem?_drop] at hj)
    simpa using this)
   (fun j hj => by rw [hWc]; exact some_setCells _ _ _ _ (fun t ht => hN _ (by omega)) _ (hN _ (by omega)))
   (fun j hj => by rw [hWf, World.frozen?_setCells]; exact hNf _) (fun v hv => hc1 v (List.mem_of_mem_drop hv))
 have HF : Shut (W1.ownsRow B 88 16 (.slice (some ⟨w.heap.size, 0, none⟩) (m + 1) G) (m + 1) (ROW.toList.take ((m + 1) * 16))) := ⟨ow1⟩
 have HR : Shut ((ROW.toList.take ((m + 1) * 16)).take (i * 16) = cs.take (i * 16) ∧ cs.length = m * 16 ∧ xs.length = 16) := ⟨by rw [List.take_take, Nat.min_eq_left (by omega)]; exact hR0, hcl, hvl⟩
 have hz2 : ¬ (i = m) := by omega
 have hz3 : ¬ (m + 1 ≤ m) := by omega
 have hGi : ¬ (G = i) := by omega
 have hGim : ¬ (G = i + 1) := by omega
 have hci : ¬ (m = i) := by omega
 have hw1 : IntKind.i64.wrap ((i : Int) + 1) = (i : Int) + 1 := by rw [IntKind.wrap_i64]; omega
 have hb1' : (0 : Int) ≤ (i : Int) + 1 := by omega
 have hin : i ≤ m := by omega
 have htn : ((i : Int) + 1).toNat = i + 1 := by omega
 rw [← hW1] at hrz
 subst hW1
 clear hkk hik hold hROW hG hRs hl hv hl1 hv1 hN hNf hblk hR0 hb1 hdl hcl hvl ow1 hc1 hx1
 have hA := hcpA ((w.alloc (.cells ROW 88)).drew) (fun _ => rfl) (fun _ => rfl) 3 (G - i)
 have hBq := hcpB ((((w.alloc (.cells ROW 88)).drew).setCells w.heap.size (i * 16) xs).drew) (fun _ => rfl) (fun _ => rfl) 3 (G - (i + 1)) (m - i)
 have HL : Shut ((((((w.alloc (.cells ROW 88)).drew).setCells w.heap.size (i * 16) xs).drew).setCells w.heap.size ((i + 1) * 16) (cs.drop (i * 16))).ownsRow B 88 16 (.slice (some ⟨w.heap.size, 0, none⟩) (m + 1) G) (m + 1) (cs.take (i * 16) ++ xs ++ cs.drop (i * 16))) := by
  have hA0 : ((w.alloc (.cells ROW 88)).drew.drew).ownsRow B 88 16 (.slice (some ⟨w.heap.size, 0, none⟩) (m + 1) G) (m + 1) (ROW.toList.take ((m + 1) * 16)) := own_at HF.out (fun _ _ => rfl)
  have h := (own_ins (i := i) (n := m) HR.out.2.2 hA0 HR.out.2.1 (by omega) HR.out.1).1
  rw [drewCells]
  exact ⟨h⟩
 have HB2 : Shut (Below w.heap.size w (((((w.alloc (.cells ROW 88)).drew).setCells w.heap.size (i * 16) xs).drew).setCells w.heap.size ((i + 1) * 16) (cs.drop (i * 16)))) := ⟨below_setCells _ (Nat.le_refl _) _ _ _ ((below_setCells _ (Nat.le_refl _) _ _ _ (((Below.refl _ _).alloc (Nat.le_refl _) _).drew)).drew)⟩
 clear hcpA hcpB HF HR
 go_enter Tryz.func130, Tryz.ntmps130
 go_wp2_with (at_builtin; refine Lib.wpList_append_run _ rfl _ _ _ _ rfl _ _ rfl rfl _ _ (hrz _) ?_)
 go_region_law (refine step_copy_run' rfl _ _ 23 23 rfl (.slice (some ⟨w.heap.size, (i + 1) * 16, none⟩) (m + 1 - (i + 1)) (G - (i + 1))) (.slice (some ⟨g, i * 16, none⟩) (m - i) (m - i)) (by simp [Act.eval, Act.put]) (by simp [Act.eval, Act.put]) hBq ?_)
 all_goals
  go_wp2
  go_ret
  exact ⟨_, _, rfl, ⟨HL.out, grown_of _ HB2.out, .inr (Nat.le_refl _)⟩⟩

set_option maxHeartbeats 8000000 in
set_option maxRecDepth 100000 in
theorem insertK_room (B g m c vb i : Nat) (cs xs : List Value) (w : World) (hcl : cs.length = m * 16) (hm : m ≤ 12) (hi : i < m) (hroom : m + 1 ≤ c) (hB : B ≤ w.heap.size) (hown : w.ownsRow B 88 16 (.slice (some ⟨g, 0, none⟩) m c) m cs) (hc1 : ∀ v ∈ cs, v.oneCell' = true) (hvl : xs.length = 16) (hx1 : ∀ v ∈ xs, v.oneCell' = true) (hv : Lies w (some ⟨vb, 0, none⟩) xs) (hvb : vb ≠ g)
  (hvbk : ∃ cur : Array Value, w.heap[vb]? = some (.cells cur 88 (0, 0)) ∧ cur.size = 16) :
  Calls Tryz.prog 130 #[.slice (some ⟨g, 0, none⟩) m c, .int .i64 i, .slice (some ⟨vb, 0, none⟩) 1 1] w (InsR B w (some ⟨g, 0, none⟩) m c (cs.take (i * 16) ++ xs ++ cs.drop (i * 16))) := by
 obtain ⟨i0, hi0, hz0, hzs, hzb⟩ := info_ins
 have hsz : (Tryz.prog.info? 88).map (·.size) = some 16 := by rw [hi0]; simp [hzs]
 obtain ⟨cur, hcb, hc2, hc3, hc4, hc5⟩ : ∃ cur : Array Value, w.heap[g]? = some (.cells cur 88 (0, 0)) ∧ m ≤ c ∧ c ≤ maxLen ∧ cur.size = c * 16 ∧ cur.toList.take (m * 16) = cs := by
  rcases hown.2 with ⟨h0, _⟩ | ⟨g', cap', cur, h0, h1, hc, h2, h3, h4, h5⟩
  ·cases h0
  ·simp only [Value.slice.injEq, Option.some.injEq, Addr.mk.injEq] at h0
   obtain ⟨⟨rfl, _⟩, _, rfl⟩ := h0
   exact ⟨cur, hc, h2, h3, h4, h5⟩
 have ow1 : w.ownsRow B 88 16 (.slice (some ⟨g, 0, none⟩) (m + 1) c) (m + 1) (cur.toList.take ((m + 1) * 16)) :=
  ⟨by rw [List.length_take]; simp; omega, .inr ⟨g, c, cur, rfl, (hown.lt g rfl).1, hcb, hroom, hc3, hc4, rfl⟩⟩
 have hz0' : (cur.toList.take ((m + 1) * 16)).take (i * 16) = cs.take (i * 16) := by rw [← hc5, List.take_take, List.take_take, Nat.min_eq_left (by omega), Nat.min_eq_left (by omega)]
 obtain ⟨curv, hvc, hvs⟩ := hvbk
 have hl := (own_some hown).1
 have hN : ∀ j, j < (m + 1) * 16 → (w.cell? ⟨g, j, none⟩).isSome = true := fun j hj => by
  simp only [World.cell?, hcb]
  rw [Array.getElem?_eq_getElem (by omega)]; rfl
 have hNf : ∀ j, w.frozen? ⟨g, j, none⟩ = false := fun j => by simp only [World.frozen?, hcb]; simp
 have hdl : (cs.drop (i * 16)).length = (m - i) * 16 := by rw [List.length_drop, hcl]; omega
 have hzv : ∀ w, (Go.sizeOf 88).run Tryz.prog w = .ok 16 w := fun w => by simp [Go.sizeOf, typeInfo, hi0, hzs]
 have hov : ∀ lb cb, (callFunc 156 #[.slice (some ⟨vb, 0, none⟩) 1 1, .slice (some ⟨g, (i + 1) * 16, none⟩) lb cb]).run Tryz.prog w = .ok (.value (.bool false)) w := fun lb cb => by
  rw [run_callFunc_extern Tryz.func156 (by kernel_rfl) (by kernel_rfl) (by kernel_rfl) (e := Extern.SlicesOverlaps.overlaps #[23, 23] #[4]) (by kernel_rfl),
   Lib.run_overlaps_apart w 23 4 88 Tryz.underlying23 16 hzv ⟨vb, 0, none⟩ ⟨g, (i + 1) * 16, none⟩ 1 1 lb cb hvb 88 88 curv.size cur.size (by simp [World.shape?, hvc]) (by simp [World.shape?, hcb]) (by omega) (by simp [World.frozen?, hvc]) (by simp [World.frozen?, hvc])]
  rfl
 have hcp1 : ∀ ty dc sc, (Builtin.copy_ #[23, 23] ty #[.slice (some ⟨g, (i + 1) * 16, none⟩) (m + 1 - (i + 1)) dc, .slice (some ⟨g, i * 16, none⟩) (m + 1 - i) sc]).run Tryz.prog w.drew = .ok (goInt ((m - i : Nat) : Int)) (w.drew.setCells g ((i + 1) * 16) (cs.drop (i * 16))) := fun ty dc sc =>
  run_copy16 w.drew _ _ ty 88 g ((i + 1) * 16) (m + 1 - (i + 1)) dc ⟨g, i * 16, none⟩ (m + 1 - i) sc (m - i) (cs.drop (i * 16)) Tryz.underlying23 hsz (by simp only [Nat.min_def]; split <;> omega) hdl
   (fun j v hj => by
    rw [Addr.add_lit]
    have := hl.at (k := i * 16 + j) (u := v) (by rwa [List.getElem?_drop] at hj)
    simpa using this)
   (fun j hj => hN _ (by omega)) (fun j hj => hNf _) (fun v hv => hc1 v (List.mem_of_mem_drop hv))
 obtain ⟨W1, hW1⟩ : ∃ W1, W1 = w.drew.setCells g ((i + 1) * 16) (cs.drop (i * 16)) := ⟨_, rfl⟩
 have hcp2 : ∀ ty dc, (Builtin.copy_ #[23, 23] ty #[.slice (some ⟨g, i * 16, none⟩) (m + 1 - i) dc, .slice (some ⟨vb, 0, none⟩) 1 1]).run Tryz.prog W1 = .ok (goInt 1) (W1.setCells g (i * 16) xs) := fun ty dc =>
  run_copy16 W1 _ _ ty 88 g (i * 16) (m + 1 - i) dc ⟨vb, 0, none⟩ 1 1 1 xs Tryz.underlying23 hsz (by simp only [Nat.min_def]; split <;> omega) (by rw [hvl])
   (fun j v hj => by
    rw [Addr.add_lit, hW1, World.cell?_setCells_out g _ _ _ _ (fun h _ => absurd h hvb)]
    exact hv.at hj)
   (fun j hj => by rw [hW1]; exact some_setCells g (cs.drop (i * 16)) ((i + 1) * 16) w.drew (fun t ht => hN _ (by omega)) (i * 16 + j) (hN _ (by omega))) (fun j hj => by rw [hW1, World.frozen?_setCells]; exact hNf _) hx1
 have HL : Shut ((W1.setCells g (i * 16) xs).ownsRow B 88 16 (.slice (some ⟨g, 0, none⟩) (m + 1) c) (m + 1) (cs.take (i * 16) ++ xs ++ cs.drop (i * 16)) ∧ w.grownBy (W1.setCells g (i * 16) xs) (some g)) := by
  have hA0 : (w.drew).ownsRow B 88 16 (.slice (some ⟨g, 0, none⟩) (m + 1) c) (m + 1) (cur.toList.take ((m + 1) * 16)) := own_at ow1 (fun _ _ => rfl)
  have h := (own_ins (i := i) (n := m) hvl hA0 hcl (by omega) hz0').2
  rw [hW1]
  exact ⟨h, grown_setRun g _ _ _ _ (grown_setRun g _ _ _ _ (grown_drew (grown_refl _ _)))⟩
 have hzA : ¬ ((i : Int) = (m : Int)) := by omega
 have hw1 : IntKind.i64.wrap ((i : Int) + 1) = (i : Int) + 1 := by rw [IntKind.wrap_i64]; omega
 have hb1 : (0 : Int) ≤ (i : Int) + 1 := by omega
 have hin : i ≤ m := by omega
 have htn : ((i : Int) + 1).toNat = i + 1 := by omega
 have hb2 : ¬ (c = i + 1) := by omega
 have hb3 : (i : Int) ≤ (m : Int) + 1 := by omega
 have hb4 : ¬ (c = i) := by omega
 have hc63 : c ≤ 9223372036854775807 := by unfold maxLen at hc3; omega
 rw [← hW1] at hcp1
 clear hl hv hN hNf hown ow1 hz0' hcb hc4 hc5 hvc hvs hdl hcl hvl hc1 hx1 hW1 hzv
 go_enter Tryz.func130, Tryz.ntmps130
 go_wp2_with (simp only [hov])
 go_region_law (refine step_copy_run' rfl _ _ 23 23 rfl (.slice (some ⟨g, (i + 1) * 16, none⟩) (m + 1 - (i + 1)) (c - (i + 1))) (.slice (some ⟨g, i * 16, none⟩) (m + 1 - i) (c - i)) (by simp [Act.eval, Act.put]) (by simp [Act.eval, Act.put]) (hcp1 _ _ _) ?_)
 go_wp2_with (at_builtin; refine wpList_copy_run' _ rfl _ _ 23 23 rfl _ _ rfl rfl (hcp2 _ _) ?_)
 go_ret
 exact ⟨_, _, rfl, ⟨HL.out.1, HL.out.2, .inl rfl⟩⟩

theorem insertK_any (B : Nat) (p : Option Addr) (n cp vb i : Nat) (R : List MKp) (x : MKp) (w : World) (hm : n ≤ 12) (hi : i ≤ n) (hB : B ≤ w.heap.size) (hown : w.ownsRow B 88 16 (.slice p n cp) n (kpCells R))
  (hvb : ∀ g o, p = some ⟨g, o, none⟩ → vb ≠ g) (hvbk : w.heap[vb]? = some (.cells x.cells.toArray 88 (0, 0))) :
  Calls Tryz.prog 130 #[.slice p n cp, .int .i64 i, .slice (some ⟨vb, 0, none⟩) 1 1] w (InsR B w p n cp (kpCells (R.take i ++ x :: R.drop i))) := by
 have hR : R.length = n := by have := hown.1; rw [kpCells_length] at this; omega
 have hv : Lies w (some ⟨vb, 0, none⟩) x.cells := by
  intro j u hj
  exact ⟨vb, 0, rfl, by rw [Nat.zero_add]; exact cellB hvbk j u (by simpa using hj)⟩
 have hxl : x.cells.length = 16 := rfl
 by_cases h : i = n
 ·subst h
  have h1 := insertK_end B p i cp vb (kpCells R) x.cells w hm hB hown hxl (kp1_one x) hv
  rw [kpCells_append1] at h1
  rw [List.take_of_length_le (by omega), List.drop_of_length_le (by omega)]
  exact h1
 ·obtain ⟨g, rfl⟩ : ∃ g, p = some ⟨g, 0, none⟩ := by
   rcases hown.2 with ⟨_, h0⟩ | ⟨g, cap, cur, h1, _⟩
   ·omega
   ·simp only [Value.slice.injEq] at h1
    exact ⟨g, h1.1⟩
  have ho := own_some hown
  rw [kpCells_ins]
  by_cases hr : n + 1 ≤ cp
  ·exact insertK_room B g n cp vb i (kpCells R) x.cells w hown.1 hm (by omega) hr hB hown (kpCells_one R) hxl (kp1_one x) hv (hvb g 0 rfl) ⟨_, hvbk, rfl⟩
  ·obtain rfl : cp = n := by omega
   exact insertK_mid B g cp vb i (kpCells R) x.cells w hown.1 hm (by omega) hB ho.1 (kpCells_one R) hxl (kp1_one x) hv

end Go.Proofs.YtakkajjoeimkdaaGreatDoor
