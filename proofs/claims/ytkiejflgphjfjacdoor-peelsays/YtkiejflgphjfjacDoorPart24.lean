/-
  The reference's AddRow: its contract.
-/
import Derived.Test.YtkiejflgphjfjacDoorPart5
import Derived.BigRegion
import Derived.Deep.Upon
import Derived.Deep.CutRange
import Derived.BigQuiet
namespace Go.Proofs.YtkiejflgphjfjacDoor
open Go.RowKit
set_option linter.unusedVariables false
set_option linter.unusedSimpArgs false

theorem infoRow : (Tryd.prog.info? 62).map (fun i => (i.zero, i.size, i.bytes)) = some (some (.agg #[.slice none 0 0, .slice none 0 0]), 2, 48) := by kernel_rfl

theorem alloc3 (w : World) (o0 o1 o2 : Obj) : (((w.alloc o0).alloc o1).alloc o2).heap[w.heap.size]? = some o0 ∧ (((w.alloc o0).alloc o1).alloc o2).heap[w.heap.size + 1]? = some o1 ∧ (((w.alloc o0).alloc o1).alloc o2).heap[w.heap.size + 1 + 1]? = some o2 := by
  simp only [heap_alloc_eq, size_alloc_eq]
  refine ⟨?_, ?_, ?_⟩
  · rw [if_neg (by omega), if_neg (by omega), if_pos (by first | omega | trivial)]
  · rw [if_neg (by omega), if_pos (by first | omega | trivial)]
  · rw [if_pos (by first | omega | trivial)]

theorem own_empty {w : World} {B g : Nat} {e : TypeId} (h : w.heap[g]? = some (.cells #[] e (0, 0))) (hb : B ≤ g) : w.ownsRow B e 2 (.slice (some ⟨g, 0, none⟩) 0 0) 0 [] :=
  ⟨rfl, .inr ⟨g, 0, #[], rfl, hb, h, Nat.le_refl _, by unfold maxLen; omega, rfl, rfl⟩⟩

theorem lies_news {w : World} {b o : Nat} {xs : List Value} (h : Lies w (some ⟨b, o, none⟩) xs) : ∀ j u, xs[j]? = some u → w.cell? ((⟨b, o, none⟩ : Addr).add j) = some u := by
  intro j u hu
  obtain ⟨b', o', e, hc⟩ := h j u hu
  cases e
  have hadd : (⟨b, o, none⟩ : Addr).add j = ⟨b, o + j, none⟩ := by unfold Addr.add; split <;> simp_all
  rw [hadd]
  exact hc

theorem far3 {X w1 : World} {row : Option Nat} (hg : X.grownBy w1 row) {g0 g1 : Nat} {a b c : Value} (h : X.cell? ⟨g0, 2, none⟩ = some a ∧ X.cell? ⟨g1, 0, none⟩ = some b ∧ X.cell? ⟨g1, 1, none⟩ = some c) (n0 : some g0 ≠ row) (n1 : some g1 ≠ row) :
    w1.cell? ⟨g0, 2, none⟩ = some a ∧ w1.cell? ⟨g1, 0, none⟩ = some b ∧ w1.cell? ⟨g1, 1, none⟩ = some c := by
  have h0 := World.block_lt_of_cell? X _ h.1
  have h1 := World.block_lt_of_cell? X _ h.2.1
  exact ⟨(hg.cell_far ⟨g0, 2, none⟩ h0 n0).trans h.1, (hg.cell_far ⟨g1, 0, none⟩ h1 n1).trans h.2.1, (hg.cell_far ⟨g1, 1, none⟩ h1 n1).trans h.2.2⟩

/-- the cells of a new row that lie in a block of their own -/
theorem news2 {w : World} {g : Nat} {x y : Value} (h0 : w.cell? ⟨g, 0, none⟩ = some x) (h1 : w.cell? ⟨g, 1, none⟩ = some y) : ∀ j u, [x, y][j]? = some u → w.cell? ((⟨g, 0, none⟩ : Addr).add j) = some u := by
  intro j u hu
  match j, hu with
  | 0, hu => simp at hu; subst hu; exact h0
  | 1, hu => simp at hu; subst hu; exact h1

/-- append of nothing, as one step of a region that draws -/
theorem step_append_zero {P : Program} {ops : Array Oper} {o : Oper} {a : Act} {w : World} {K : Act → World → Prop} {Q : Exit → Act → World → Prop} {E : Prop} (hgd : o.guard = none) (s x : Operand) (t : TypeId)
    (ho : o.op = .call { callee := .builtin .append, args := #[s, x], argTypes := #[t, t] }) (e : TypeId) (i : TypeInfo) (ht : P.underlying t = some (.slice e)) (hi : P.info? e = some i) (b : Option Addr) (n c : Nat) (hle : n ≤ c) (ra : Option Addr) (rc : Nat)
    (hs : a.eval s = .slice b n c) (hx : a.eval x = .slice ra 0 rc) (h : K (a.put o.dst (.slice b n c)) w) : if Region.wanted o (yielded ops a.tmps) = true then Oper.wp P o a w K Q else E := by
  have hw : Region.wanted o (yielded ops a.tmps) = true := by simp [Region.wanted, hgd]
  rw [if_pos hw]
  have hsrc : Src P i.size t (.slice ra 0 rc) 0 [] w := by
    cases ra with
    | none => exact Src.ofNil w ht rc
    | some ad => exact Src.ofSlice w ht ad 0 rc [] (by simp) (fun j u hu => by simp at hu) (fun u hu => by cases hu)
  have hr := run_append_nothing (P := P) w t t o.type e i ht hi b n c hle (.slice ra 0 rc) hsrc
  unfold Oper.wp execOp
  simp only [ho, resolve, invoke, builtin, Sem.run_bind, Sem.run_pure, Result.andThen_ok, List.map_toArray, List.map_cons, List.map_nil, hs, hx, hr]
  exact h

theorem rowCells_one (l : List MRow) : ∀ u ∈ rowCells l, u.oneCell' = true := by
  intro u hu
  obtain ⟨r, _, hm⟩ := List.mem_flatMap.1 hu
  simp at hm
  rcases hm with rfl | rfl <;> rfl

set_option maxRecDepth 8000 in
set_option maxHeartbeats 4000000 in
theorem addRow_good (n k : Nat) (ra : Option Addr) (rc : Nat) (rows : List MRow) (r : MRow) (w : World) (hl : Lies w ra (rowCells rows)) (hall : ∀ x ∈ rows, RowIn w x) (hr : RowIn w r) (n1 : 1 ≤ n) (n2 : n ≤ 24) (k1 : 1 ≤ k) (k2 : k ≤ 16) (hm : rows.length ≤ 24)
    (hf : ∀ x ∈ rows, Fits n k x.says) (hfr : Fits n k r.says) :
    Calls Tryd.prog 39 #[.agg #[.int .i64 n, .int .i64 k, .slice ra rows.length rc], .agg #[r.hv, r.dv]] w fun e w' => AddPost w w' n k (rows.length + 1) ((rows ++ [r]).map fun x => LRow.v x.says) e := by
  obtain ⟨ha, hc, rh, da, dc, rd⟩ := r
  have hn : rh.length = n := hfr.1
  have hk : rd.length = k := hfr.2
  simp only [MRow.hv, MRow.dv] at *
  have HW := alloc3 w (.cells #[.int .i64 n, .int .i64 k, .slice ra rows.length rc] 53) (.cells #[.slice ha rh.length hc, .slice da rd.length dc] 62) (.cells #[.int .i64 0, .int .i64 0, .slice none 0 0] 53)
  rw [hn, hk] at HW ⊢
  have b1 : ((n : Int) != (n : Int)) = false := by simp
  have b2 : ((k : Int) != (k : Int)) = false := by simp
  go_enter Tryd.func39, Tryd.ntmps39
  go_upto_region 3 with fail
  obtain ⟨W0, hW0⟩ : ∃ W0, ((w.alloc (.cells #[.int .i64 n, .int .i64 k, .slice ra rows.length rc] 53)).alloc (.cells #[.slice ha n hc, .slice da k dc] 62)).alloc (.cells #[.int .i64 0, .int .i64 0, .slice none 0 0] 53) = W0 := ⟨_, rfl⟩
  have hB : Below w.heap.size w W0 := by
    rw [← hW0]
    exact (((Below.refl _ _).alloc (Nat.le_refl _) _).alloc (by simp) _).alloc (by simp; omega) _
  rw [hW0] at HW ⊢
  have HSZ : Shut (W0.heap.size = w.heap.size + 3) := ⟨by rw [← hW0]; simp⟩
  obtain ⟨blk0, blk1, blk2⟩ := HW
  have x0 : W0.cell? ⟨w.heap.size, 0, none⟩ = some (.int .i64 n) := by simp [World.cell?, blk0]
  have x1 : W0.cell? ⟨w.heap.size, 1, none⟩ = some (.int .i64 k) := by simp [World.cell?, blk0]
  have x2 : W0.cell? ⟨w.heap.size, 2, none⟩ = some (.slice ra rows.length rc) := by simp [World.cell?, blk0]
  have y0 : W0.cell? ⟨w.heap.size + 1, 0, none⟩ = some (.slice ha n hc) := by simp [World.cell?, blk1]
  have y1 : W0.cell? ⟨w.heap.size + 1, 1, none⟩ = some (.slice da k dc) := by simp [World.cell?, blk1]
  have z0 : W0.cell? ⟨w.heap.size + 1 + 1, 0, none⟩ = some (.int .i64 0) := by simp [World.cell?, blk2]
  have z1 : W0.cell? ⟨w.heap.size + 1 + 1, 1, none⟩ = some (.int .i64 0) := by simp [World.cell?, blk2]
  have z2 : W0.cell? ⟨w.heap.size + 1 + 1, 2, none⟩ = some (.slice none 0 0) := by simp [World.cell?, blk2]
  have zf : ∀ j, W0.frozen? ⟨w.heap.size + 1 + 1, j, none⟩ = false := fun j => by simp [World.frozen?, blk2]
  have zn : Shut (∀ j v, W0.cell? ⟨w.heap.size + 1 + 1, j, none⟩ = some v → v = .int .i64 0 ∨ v = .slice none 0 0) := ⟨fun j v h => by
    simp only [World.cell?, blk2] at h
    match j, h with
    | 0, h => simp at h; exact .inl h.symm
    | 1, h => simp at h; exact .inl h.symm
    | 2, h => simp at h; exact .inr h.symm
    | j + 3, h => simp at h⟩
  clear blk0 blk1 blk2 hW0
  replace hl := hl.below hB (Nat.le_refl _)
  replace hall : ∀ x ∈ rows, RowIn W0 x := fun x hx => (hall x hx).below hB
  replace hr := hr.below hB
  obtain ⟨g1, hg1⟩ : ∃ g1, w.heap.size + 1 = g1 := ⟨_, rfl⟩
  rw [hg1] at y0 y1 z0 z1 z2 zf zn ⊢
  obtain ⟨g2, hg2⟩ : ∃ g2, g1 + 1 = g2 := ⟨_, rfl⟩
  rw [hg2] at z0 z1 z2 zf zn ⊢
  obtain ⟨g0, hg0⟩ : ∃ g0, w.heap.size = g0 := ⟨_, rfl⟩
  rw [hg0] at x0 x1 x2 hB ⊢
  have o1 : g0 < g1 := by omega
  have o2 : g1 < g2 := by omega
  have o3 : g2 < W0.heap.size := by have := HSZ.out; omega
  have HG := Shut.mk hg0
  clear hg1 hg2 hg0 HSZ
  have HRC : Shut (rowCells (rows ++ [⟨ha, hc, rh, da, dc, rd⟩]) = [] ++ rowCells rows ++ [.slice ha n hc, .slice da k dc]) := ⟨by rw [rowCells_append]; simp [rowCells, MRow.hv, MRow.dv, hn, hk]⟩
  go_cut [7] from 29 (fun s7 wc => ∃ g cap, s7 = .slice (some ⟨g, 0, none⟩) (rows.length + 1) cap ∧ Shut (wc.ownsRow W0.heap.size 62 2 (.slice (some ⟨g, 0, none⟩) (rows.length + 1) cap) (rows.length + 1) (rowCells (rows ++ [⟨ha, hc, rh, da, dc, rd⟩])) ∧ Below W0.heap.size W0 wc))
  case first =>
    rcases Nat.eq_zero_or_pos rows.length with h0 | h0
    · obtain ⟨i0, hi, hz0, hz1, hz2⟩ := info_parts infoRow
      obtain rfl : rows = [] := List.eq_nil_of_length_eq_zero h0
      simp only [List.length_nil, Nat.zero_add] at x2 HRC ⊢
      have k0 : W0.drew.cell? ⟨g0, 2, none⟩ = some (.slice ra 0 rc) ∧ W0.drew.cell? ⟨g1, 0, none⟩ = some (.slice ha n hc) ∧ W0.drew.cell? ⟨g1, 1, none⟩ = some (.slice da k dc) := ⟨x2, y0, y1⟩
      have k1 : ((W0.alloc (.cells #[] 62)).drew).cell? ⟨g0, 2, none⟩ = some (.slice ra 0 rc) ∧ ((W0.alloc (.cells #[] 62)).drew).cell? ⟨g1, 0, none⟩ = some (.slice ha n hc) ∧ ((W0.alloc (.cells #[] 62)).drew).cell? ⟨g1, 1, none⟩ = some (.slice da k dc) := ⟨cellA' x2 _, cellA' y0 _, cellA' y1 _⟩
      have k2 : (((W0.alloc (.cells #[] 62)).alloc (.cells #[.slice ha n hc, .slice da k dc] 62)).drew).cell? ⟨g0, 2, none⟩ = some (.slice ra 0 rc) ∧ (((W0.alloc (.cells #[] 62)).alloc (.cells #[.slice ha n hc, .slice da k dc] 62)).drew).cell? ⟨g1, 0, none⟩ = some (.slice ha n hc) ∧ (((W0.alloc (.cells #[] 62)).alloc (.cells #[.slice ha n hc, .slice da k dc] 62)).drew).cell? ⟨g1, 1, none⟩ = some (.slice da k dc) := ⟨cellA' (cellA' x2 _) _, cellA' (cellA' y0 _) _, cellA' (cellA' y1 _) _⟩
      have k3 : (((W0.alloc (.cells #[.slice ha n hc, .slice da k dc] 62)).alloc (.cells #[] 62)).drew).cell? ⟨g0, 2, none⟩ = some (.slice ra 0 rc) ∧ (((W0.alloc (.cells #[.slice ha n hc, .slice da k dc] 62)).alloc (.cells #[] 62)).drew).cell? ⟨g1, 0, none⟩ = some (.slice ha n hc) ∧ (((W0.alloc (.cells #[.slice ha n hc, .slice da k dc] 62)).alloc (.cells #[] 62)).drew).cell? ⟨g1, 1, none⟩ = some (.slice da k dc) := ⟨cellA' (cellA' x2 _) _, cellA' (cellA' y0 _) _, cellA' (cellA' y1 _) _⟩
      have k4 : ((W0.alloc (.cells #[.slice ha n hc, .slice da k dc] 62)).drew).cell? ⟨g0, 2, none⟩ = some (.slice ra 0 rc) ∧ ((W0.alloc (.cells #[.slice ha n hc, .slice da k dc] 62)).drew).cell? ⟨g1, 0, none⟩ = some (.slice ha n hc) ∧ ((W0.alloc (.cells #[.slice ha n hc, .slice da k dc] 62)).drew).cell? ⟨g1, 1, none⟩ = some (.slice da k dc) := ⟨cellA' x2 _, cellA' y0 _, cellA' y1 _⟩
      have e2 : (((W0.alloc (.cells #[] 62)).alloc (.cells #[.slice ha n hc, .slice da k dc] 62)).drew).ownsRow W0.heap.size 62 2 (.slice (some ⟨W0.heap.size, 0, none⟩) 0 0) 0 [] := own_empty (w := (W0.alloc (.cells #[] 62)).alloc (.cells #[.slice ha n hc, .slice da k dc] 62)) (by rw [heap_alloc_eq, if_neg (by simp), heap_alloc_eq, if_pos rfl]) (Nat.le_refl _)
      have e3 : (((W0.alloc (.cells #[.slice ha n hc, .slice da k dc] 62)).alloc (.cells #[] 62)).drew).ownsRow W0.heap.size 62 2 (.slice (some ⟨W0.heap.size + 1, 0, none⟩) 0 0) 0 [] := own_empty (w := (W0.alloc (.cells #[.slice ha n hc, .slice da k dc] 62)).alloc (.cells #[] 62)) (by rw [heap_alloc_eq, if_pos (by simp)]) (by omega)
      have rb : (((W0.alloc (.cells #[] 62)).alloc (.cells #[.slice ha n hc, .slice da k dc] 62)).drew).cell? ⟨W0.heap.size + 1, 0, none⟩ = some (.slice ha n hc) ∧ (((W0.alloc (.cells #[] 62)).alloc (.cells #[.slice ha n hc, .slice da k dc] 62)).drew).cell? ⟨W0.heap.size + 1, 1, none⟩ = some (.slice da k dc) := by
        have h := Box2.mk (W0.alloc (.cells #[] 62)) (.slice ha n hc) (.slice da k dc) 62
        rw [size_alloc_eq] at h
        exact h
      have rc' : (((W0.alloc (.cells #[.slice ha n hc, .slice da k dc] 62)).alloc (.cells #[] 62)).drew).cell? ⟨W0.heap.size, 0, none⟩ = some (.slice ha n hc) ∧ (((W0.alloc (.cells #[.slice ha n hc, .slice da k dc] 62)).alloc (.cells #[] 62)).drew).cell? ⟨W0.heap.size, 1, none⟩ = some (.slice da k dc) := by
        have h := Box2.mk W0 (.slice ha n hc) (.slice da k dc) 62
        exact ⟨cellA' h.1 _, cellA' h.2 _⟩
      have b2' : Below W0.heap.size W0 (((W0.alloc (.cells #[] 62)).alloc (.cells #[.slice ha n hc, .slice da k dc] 62)).drew) := (((Below.refl _ _).alloc (Nat.le_refl _) _).alloc (by simp) _).drew
      have b3' : Below W0.heap.size W0 (((W0.alloc (.cells #[.slice ha n hc, .slice da k dc] 62)).alloc (.cells #[] 62)).drew) := (((Below.refl _ _).alloc (Nat.le_refl _) _).alloc (by simp) _).drew
      have m0 : some g0 ≠ (Value.slice (some ⟨W0.heap.size, 0, none⟩) 0 0).ownBlock := by simp [Value.ownBlock]; omega
      have m1 : some g1 ≠ (Value.slice (some ⟨W0.heap.size, 0, none⟩) 0 0).ownBlock := by simp [Value.ownBlock]; omega
      have m0' : some g0 ≠ (Value.slice (some ⟨W0.heap.size + 1, 0, none⟩) 0 0).ownBlock := by simp [Value.ownBlock]; omega
      have m1' : some g1 ≠ (Value.slice (some ⟨W0.heap.size + 1, 0, none⟩) 0 0).ownBlock := by simp [Value.ownBlock]; omega
      have honeN : ∀ u ∈ [Value.slice ha n hc, Value.slice da k dc], u.oneCell' = true := by intro u hu; simp at hu; rcases hu with rfl | rfl <;> rfl
      have hmx3 : 0 + 1 ≤ maxLen := by unfold maxLen; omega
      have hmx4 : (0 + 1) * 48 ≤ 140737488355328 := by omega
      have K0 := Shut.mk k0
      have K1 := Shut.mk k1
      have K2 := Shut.mk k2
      have K3 := Shut.mk k3
      have K4 := Shut.mk k4
      clear k0 k1 k2 k3 k4
      have tok1 : True := trivial
      go_region_held3 (fun w' => w'.cell? ⟨g0, 2, none⟩ = some (.slice ra 0 rc) ∧ w'.cell? ⟨g1, 0, none⟩ = some (.slice ha n hc) ∧ w'.cell? ⟨g1, 1, none⟩ = some (.slice da k dc)) (first | with_reducible exact K0.out | with_reducible exact K1.out | with_reducible exact K2.out | with_reducible exact K3.out | with_reducible exact K4.out | with_reducible assumption | with_reducible exact far3 hgrow2 K2.out m0 m1 | with_reducible exact far3 hgrow2 K3.out m0' m1')
        (first
          | (have _t := tok1; refine step_append_zero rfl (.tmp 29) (.tmp 31) 51 rfl 62 i0 Tryd.underlying51 hi (some ⟨W0.heap.size, 0, none⟩) 0 0 (Nat.le_refl _) ra rc ?hs ?hx ?_; (case hs => (simp [Act.eval, Act.put]; done)); (case hx => (simp [Act.eval, Act.put]; done)); clear tok1; have tok2 : True := trivial)
          | (have _t := tok1; refine step_append_zero rfl (.tmp 29) (.tmp 31) 51 rfl 62 i0 Tryd.underlying51 hi (some ⟨W0.heap.size + 1, 0, none⟩) 0 0 (Nat.le_refl _) ra rc ?hs ?hx ?_; (case hs => (simp [Act.eval, Act.put]; done)); (case hx => (simp [Act.eval, Act.put]; done)); clear tok1; have tok3 : True := trivial)
          | (have _t := tok2; refine step_append_lies _ rfl (.tmp 32) (.tmp 34) 51 rfl W0.heap.size 62 i0 (.agg #[.slice none 0 0, .slice none 0 0]) 2 48 Tryd.underlying51 hi hz0 hz1 hz2 rfl (by decide) (.slice (some ⟨W0.heap.size, 0, none⟩) 0 0) 0 [] ?hs ?hown ⟨W0.heap.size + 1, 0, none⟩ 1 1 [.slice ha n hc, .slice da k dc] ?hx rfl ?hnews honeN Nat.one_pos hmx3 hmx4 ?hbase _ rfl ?_; (case hs => (simp [Act.eval, Act.put]; done)); (case hx => (simp [Act.eval, Act.put]; done)); (case hown => exact e2); (case hnews => exact (news2 rb.1 rb.2)); (case hbase => (simp; try omega)); intro g' cap' w2 hown2 hgrow2 hat2 hlt2; clear tok2)
          | (have _t := tok3; refine step_append_lies _ rfl (.tmp 32) (.tmp 34) 51 rfl W0.heap.size 62 i0 (.agg #[.slice none 0 0, .slice none 0 0]) 2 48 Tryd.underlying51 hi hz0 hz1 hz2 rfl (by decide) (.slice (some ⟨W0.heap.size + 1, 0, none⟩) 0 0) 0 [] ?hs ?hown ⟨W0.heap.size, 0, none⟩ 1 1 [.slice ha n hc, .slice da k dc] ?hx rfl ?hnews honeN Nat.one_pos hmx3 hmx4 ?hbase _ rfl ?_; (case hs => (simp [Act.eval, Act.put]; done)); (case hx => (simp [Act.eval, Act.put]; done)); (case hown => exact e3); (case hnews => exact (news2 rc'.1 rc'.2)); (case hbase => (simp; try omega)); intro g' cap' w2 hown2 hgrow2 hat2 hlt2; clear tok3))
      all_goals
        have B2 : Below W0.heap.size W0 w2 := Below.grown (by first | exact b2' | exact b3') hgrow2 (by simp; try omega) (by intro k hk; simp [Value.ownBlock] at hk; omega)
        have F2 : Shut (w2.ownsRow W0.heap.size 62 2 (.slice (some ⟨g', 0, none⟩) 1 cap') 1 (rowCells ([] ++ [⟨ha, hc, rh, da, dc, rd⟩])) ∧ Below W0.heap.size W0 w2) := ⟨by rw [HRC.out]; simpa only [Nat.zero_add, rowCells, List.flatMap_nil, List.append_nil, List.nil_append] using hown2, B2⟩
        go_wp2
        go_meet
        exact ⟨g', cap', by simp, F2⟩
    · obtain ⟨ab, ao, rfl⟩ := hl.some (k := 0) (by rw [rowCells_length]; omega)
      obtain ⟨i0, hi, hz0, hz1, hz2⟩ := info_parts infoRow
      obtain ⟨H, hH⟩ : ∃ H, W0.heap.size = H := ⟨_, rfl⟩
      have k1 : ((W0.alloc (.cells #[] 62)).drew).cell? ⟨g0, 2, none⟩ = some (.slice (some ⟨ab, ao, none⟩) rows.length rc) ∧ ((W0.alloc (.cells #[] 62)).drew).cell? ⟨g1, 0, none⟩ = some (.slice ha n hc) ∧ ((W0.alloc (.cells #[] 62)).drew).cell? ⟨g1, 1, none⟩ = some (.slice da k dc) := ⟨cellA' x2 _, cellA' y0 _, cellA' y1 _⟩
      have k2 : (((W0.alloc (.cells #[] 62)).alloc (.cells #[.slice ha n hc, .slice da k dc] 62)).drew).cell? ⟨g0, 2, none⟩ = some (.slice (some ⟨ab, ao, none⟩) rows.length rc) ∧ (((W0.alloc (.cells #[] 62)).alloc (.cells #[.slice ha n hc, .slice da k dc] 62)).drew).cell? ⟨g1, 0, none⟩ = some (.slice ha n hc) ∧ (((W0.alloc (.cells #[] 62)).alloc (.cells #[.slice ha n hc, .slice da k dc] 62)).drew).cell? ⟨g1, 1, none⟩ = some (.slice da k dc) := ⟨cellA' (cellA' x2 _) _, cellA' (cellA' y0 _) _, cellA' (cellA' y1 _) _⟩
      have k3 : (((W0.alloc (.cells #[.slice ha n hc, .slice da k dc] 62)).alloc (.cells #[] 62)).drew).cell? ⟨g0, 2, none⟩ = some (.slice (some ⟨ab, ao, none⟩) rows.length rc) ∧ (((W0.alloc (.cells #[.slice ha n hc, .slice da k dc] 62)).alloc (.cells #[] 62)).drew).cell? ⟨g1, 0, none⟩ = some (.slice ha n hc) ∧ (((W0.alloc (.cells #[.slice ha n hc, .slice da k dc] 62)).alloc (.cells #[] 62)).drew).cell? ⟨g1, 1, none⟩ = some (.slice da k dc) := ⟨cellA' (cellA' x2 _) _, cellA' (cellA' y0 _) _, cellA' (cellA' y1 _) _⟩
      have k4 : ((W0.alloc (.cells #[.slice ha n hc, .slice da k dc] 62)).drew).cell? ⟨g0, 2, none⟩ = some (.slice (some ⟨ab, ao, none⟩) rows.length rc) ∧ ((W0.alloc (.cells #[.slice ha n hc, .slice da k dc] 62)).drew).cell? ⟨g1, 0, none⟩ = some (.slice ha n hc) ∧ ((W0.alloc (.cells #[.slice ha n hc, .slice da k dc] 62)).drew).cell? ⟨g1, 1, none⟩ = some (.slice da k dc) := ⟨cellA' x2 _, cellA' y0 _, cellA' y1 _⟩
      have e1 : ((W0.alloc (.cells #[] 62)).drew).ownsRow W0.heap.size 62 2 (.slice (some ⟨W0.heap.size, 0, none⟩) 0 0) 0 [] := own_empty (w := W0.alloc (.cells #[] 62)) (by rw [heap_alloc_eq, if_pos rfl]) (Nat.le_refl _)
      have e2 : (((W0.alloc (.cells #[] 62)).alloc (.cells #[.slice ha n hc, .slice da k dc] 62)).drew).ownsRow W0.heap.size 62 2 (.slice (some ⟨W0.heap.size, 0, none⟩) 0 0) 0 [] := own_empty (w := (W0.alloc (.cells #[] 62)).alloc (.cells #[.slice ha n hc, .slice da k dc] 62)) (by rw [heap_alloc_eq, if_neg (by simp), heap_alloc_eq, if_pos rfl]) (Nat.le_refl _)
      have e3 : (((W0.alloc (.cells #[.slice ha n hc, .slice da k dc] 62)).alloc (.cells #[] 62)).drew).ownsRow W0.heap.size 62 2 (.slice (some ⟨W0.heap.size + 1, 0, none⟩) 0 0) 0 [] := own_empty (w := (W0.alloc (.cells #[.slice ha n hc, .slice da k dc] 62)).alloc (.cells #[] 62)) (by rw [heap_alloc_eq, if_pos (by simp)]) (by omega)
      have q1 : Lies ((W0.alloc (.cells #[] 62)).drew) (some ⟨ab, ao, none⟩) (rowCells rows) := hl.alloc _
      have q2 : Lies (((W0.alloc (.cells #[] 62)).alloc (.cells #[.slice ha n hc, .slice da k dc] 62)).drew) (some ⟨ab, ao, none⟩) (rowCells rows) := (hl.alloc _).alloc _
      have q3 : Lies (((W0.alloc (.cells #[.slice ha n hc, .slice da k dc] 62)).alloc (.cells #[] 62)).drew) (some ⟨ab, ao, none⟩) (rowCells rows) := (hl.alloc _).alloc _
      have rb : (((W0.alloc (.cells #[] 62)).alloc (.cells #[.slice ha n hc, .slice da k dc] 62)).drew).cell? ⟨W0.heap.size + 1, 0, none⟩ = some (.slice ha n hc) ∧ (((W0.alloc (.cells #[] 62)).alloc (.cells #[.slice ha n hc, .slice da k dc] 62)).drew).cell? ⟨W0.heap.size + 1, 1, none⟩ = some (.slice da k dc) := by
        have h := Box2.mk (W0.alloc (.cells #[] 62)) (.slice ha n hc) (.slice da k dc) 62
        rw [size_alloc_eq] at h
        exact h
      have rc' : (((W0.alloc (.cells #[.slice ha n hc, .slice da k dc] 62)).alloc (.cells #[] 62)).drew).cell? ⟨W0.heap.size, 0, none⟩ = some (.slice ha n hc) ∧ (((W0.alloc (.cells #[.slice ha n hc, .slice da k dc] 62)).alloc (.cells #[] 62)).drew).cell? ⟨W0.heap.size, 1, none⟩ = some (.slice da k dc) := by
        have h := Box2.mk W0 (.slice ha n hc) (.slice da k dc) 62
        exact ⟨cellA' h.1 _, cellA' h.2 _⟩
      have hlen : (rowCells rows).length = rows.length * 2 := by rw [rowCells_length]; omega
      have honeR := rowCells_one rows
      have b1' : Below W0.heap.size W0 ((W0.alloc (.cells #[] 62)).drew) := ((Below.refl _ _).alloc (Nat.le_refl _) _).drew
      have b2' : Below W0.heap.size W0 (((W0.alloc (.cells #[] 62)).alloc (.cells #[.slice ha n hc, .slice da k dc] 62)).drew) := (((Below.refl _ _).alloc (Nat.le_refl _) _).alloc (by simp) _).drew
      have b3' : Below W0.heap.size W0 (((W0.alloc (.cells #[.slice ha n hc, .slice da k dc] 62)).alloc (.cells #[] 62)).drew) := (((Below.refl _ _).alloc (Nat.le_refl _) _).alloc (by simp) _).drew
      have m0 : some g0 ≠ (Value.slice (some ⟨W0.heap.size, 0, none⟩) 0 0).ownBlock := by simp [Value.ownBlock]; omega
      have m1 : some g1 ≠ (Value.slice (some ⟨W0.heap.size, 0, none⟩) 0 0).ownBlock := by simp [Value.ownBlock]; omega
      have m0' : some g0 ≠ (Value.slice (some ⟨W0.heap.size + 1, 0, none⟩) 0 0).ownBlock := by simp [Value.ownBlock]; omega
      have m1' : some g1 ≠ (Value.slice (some ⟨W0.heap.size + 1, 0, none⟩) 0 0).ownBlock := by simp [Value.ownBlock]; omega
      have honeN : ∀ u ∈ [Value.slice ha n hc, Value.slice da k dc], u.oneCell' = true := by intro u hu; simp at hu; rcases hu with rfl | rfl <;> rfl
      have hmx1 : 0 + rows.length ≤ maxLen := by unfold maxLen; omega
      have hmx2 : (0 + rows.length) * 48 ≤ 140737488355328 := by omega
      have hmx3 : 0 + rows.length + 1 ≤ maxLen := by unfold maxLen; omega
      have hmx4 : (0 + rows.length + 1) * 48 ≤ 140737488355328 := by omega
      have k0 : W0.drew.cell? ⟨g0, 2, none⟩ = some (.slice (some ⟨ab, ao, none⟩) rows.length rc) ∧ W0.drew.cell? ⟨g1, 0, none⟩ = some (.slice ha n hc) ∧ W0.drew.cell? ⟨g1, 1, none⟩ = some (.slice da k dc) := ⟨x2, y0, y1⟩
      have K0 := Shut.mk k0
      have K1 := Shut.mk k1
      have K2 := Shut.mk k2
      have K3 := Shut.mk k3
      have K4 := Shut.mk k4
      clear k0 k1 k2 k3 k4
      have tok1 : True := trivial
      go_region_held3 (fun w' => w'.cell? ⟨g0, 2, none⟩ = some (.slice (some ⟨ab, ao, none⟩) rows.length rc) ∧ w'.cell? ⟨g1, 0, none⟩ = some (.slice ha n hc) ∧ w'.cell? ⟨g1, 1, none⟩ = some (.slice da k dc)) (first | with_reducible exact K0.out | with_reducible exact K1.out | with_reducible exact K2.out | with_reducible exact K3.out | with_reducible exact K4.out | with_reducible assumption | with_reducible exact ⟨cellA' s1.1 _, cellA' s1.2.1 _, cellA' s1.2.2 _⟩ | with_reducible exact far3 hgrow2 s1 (by simp [Value.ownBlock]; omega) (by simp [Value.ownBlock]; omega) | with_reducible exact far3 hgrow2 ⟨cellA' s1.1 _, cellA' s1.2.1 _, cellA' s1.2.2 _⟩ (by simp [Value.ownBlock]; omega) (by simp [Value.ownBlock]; omega))
        (first
          | (have _t := tok1; have _s : (((W0.alloc (.cells #[] 62)).alloc (.cells #[.slice ha n hc, .slice da k dc] 62)).drew).cell? ⟨g0, 2, none⟩ = some (.slice (some ⟨ab, ao, none⟩) rows.length rc) ∧ (((W0.alloc (.cells #[] 62)).alloc (.cells #[.slice ha n hc, .slice da k dc] 62)).drew).cell? ⟨g1, 0, none⟩ = some (.slice ha n hc) ∧ (((W0.alloc (.cells #[] 62)).alloc (.cells #[.slice ha n hc, .slice da k dc] 62)).drew).cell? ⟨g1, 1, none⟩ = some (.slice da k dc) := (by with_reducible assumption); refine step_append_lies _ rfl (.tmp 29) (.tmp 31) 51 rfl W0.heap.size 62 i0 (.agg #[.slice none 0 0, .slice none 0 0]) 2 48 Tryd.underlying51 hi hz0 hz1 hz2 rfl (by decide) (.slice (some ⟨W0.heap.size, 0, none⟩) 0 0) 0 [] ?hs ?hown ⟨ab, ao, none⟩ rows.length rc (rowCells rows) ?hx hlen ?hnews honeR h0 hmx1 hmx2 ?hbase _ rfl ?_; (case hs => (simp [Act.eval, Act.put]; done)); (case hown => (first | with_reducible exact e2)); (case hx => (simp [Act.eval, Act.put]; done)); (case hnews => (first | with_reducible exact (lies_news q2))); (case hbase => (simp; try omega)); intro g cap w1 hown1 hgrow hat hlt1; have s1 := far3 hgrow K2.out m0 m1; have B1 : Below W0.heap.size W0 w1 := Below.grown b2' hgrow (by simp; try omega) (by intro k hk; simp [Value.ownBlock] at hk; omega); have hge := (hown1.lt g rfl).1; have r0 := (hgrow.cell_far ⟨W0.heap.size + 1, 0, none⟩ (by simp) (by simp [Value.ownBlock])).trans rb.1; have r1 := (hgrow.cell_far ⟨W0.heap.size + 1, 1, none⟩ (by simp) (by simp [Value.ownBlock])).trans rb.2; clear tok1; have tokB : True := trivial)
          | (have _t := tok1; have _s : (((W0.alloc (.cells #[.slice ha n hc, .slice da k dc] 62)).alloc (.cells #[] 62)).drew).cell? ⟨g0, 2, none⟩ = some (.slice (some ⟨ab, ao, none⟩) rows.length rc) ∧ (((W0.alloc (.cells #[.slice ha n hc, .slice da k dc] 62)).alloc (.cells #[] 62)).drew).cell? ⟨g1, 0, none⟩ = some (.slice ha n hc) ∧ (((W0.alloc (.cells #[.slice ha n hc, .slice da k dc] 62)).alloc (.cells #[] 62)).drew).cell? ⟨g1, 1, none⟩ = some (.slice da k dc) := (by with_reducible assumption); refine step_append_lies _ rfl (.tmp 29) (.tmp 31) 51 rfl W0.heap.size 62 i0 (.agg #[.slice none 0 0, .slice none 0 0]) 2 48 Tryd.underlying51 hi hz0 hz1 hz2 rfl (by decide) (.slice (some ⟨W0.heap.size + 1, 0, none⟩) 0 0) 0 [] ?hs ?hown ⟨ab, ao, none⟩ rows.length rc (rowCells rows) ?hx hlen ?hnews honeR h0 hmx1 hmx2 ?hbase _ rfl ?_; (case hs => (simp [Act.eval, Act.put]; done)); (case hown => (first | with_reducible exact e3)); (case hx => (simp [Act.eval, Act.put]; done)); (case hnews => (first | with_reducible exact (lies_news q3))); (case hbase => (simp; try omega)); intro g cap w1 hown1 hgrow hat hlt1; have s1 := far3 hgrow K3.out m0' m1'; have B1 : Below W0.heap.size W0 w1 := Below.grown b3' hgrow (by simp; try omega) (by intro k hk; simp [Value.ownBlock] at hk; omega); have hge := (hown1.lt g rfl).1; have r0 := (hgrow.cell_far ⟨W0.heap.size, 0, none⟩ (by simp; omega) (by simp [Value.ownBlock])).trans rc'.1; have r1 := (hgrow.cell_far ⟨W0.heap.size, 1, none⟩ (by simp; omega) (by simp [Value.ownBlock])).trans rc'.2; clear tok1; have tokC : True := trivial)
          | (have _t := tok1; have _s : ((W0.alloc (.cells #[] 62)).drew).cell? ⟨g0, 2, none⟩ = some (.slice (some ⟨ab, ao, none⟩) rows.length rc) ∧ ((W0.alloc (.cells #[] 62)).drew).cell? ⟨g1, 0, none⟩ = some (.slice ha n hc) ∧ ((W0.alloc (.cells #[] 62)).drew).cell? ⟨g1, 1, none⟩ = some (.slice da k dc) := (by with_reducible assumption); refine step_append_lies _ rfl (.tmp 29) (.tmp 31) 51 rfl W0.heap.size 62 i0 (.agg #[.slice none 0 0, .slice none 0 0]) 2 48 Tryd.underlying51 hi hz0 hz1 hz2 rfl (by decide) (.slice (some ⟨W0.heap.size, 0, none⟩) 0 0) 0 [] ?hs ?hown ⟨ab, ao, none⟩ rows.length rc (rowCells rows) ?hx hlen ?hnews honeR h0 hmx1 hmx2 ?hbase _ rfl ?_; (case hs => (simp [Act.eval, Act.put]; done)); (case hown => (first | with_reducible exact e1)); (case hx => (simp [Act.eval, Act.put]; done)); (case hnews => (first | with_reducible exact (lies_news q1))); (case hbase => (simp; try omega)); intro g cap w1 hown1 hgrow hat hlt1; have s1 := far3 hgrow K1.out m0 m1; have B1 : Below W0.heap.size W0 w1 := Below.grown b1' hgrow (by simp; try omega) (by intro k hk; simp [Value.ownBlock] at hk; omega); have hge := (hown1.lt g rfl).1; clear tok1; have tokA : True := trivial)
          | (have _t := tokB; refine step_append_lies _ rfl (.tmp 32) (.tmp 34) 51 rfl W0.heap.size 62 i0 (.agg #[.slice none 0 0, .slice none 0 0]) 2 48 Tryd.underlying51 hi hz0 hz1 hz2 rfl (by decide) (.slice (some ⟨g, 0, none⟩) (0 + rows.length) cap) (0 + rows.length) ([] ++ rowCells rows) ?hs ?hown ⟨W0.heap.size + 1, 0, none⟩ 1 1 [.slice ha n hc, .slice da k dc] ?hx rfl ?hnews honeN Nat.one_pos hmx3 hmx4 ?hbase _ rfl ?_; (case hs => (simp [Act.eval, Act.put]; done)); (case hx => (simp [Act.eval, Act.put]; done)); (case hown => exact hown1); (case hnews => exact (news2 r0 r1)); (case hbase => (have := B1.size; simp; try omega)); intro g' cap' w2 hown2 hgrow2 hat2 hlt2; clear tokB)
          | (have _t := tokC; refine step_append_lies _ rfl (.tmp 32) (.tmp 34) 51 rfl W0.heap.size 62 i0 (.agg #[.slice none 0 0, .slice none 0 0]) 2 48 Tryd.underlying51 hi hz0 hz1 hz2 rfl (by decide) (.slice (some ⟨g, 0, none⟩) (0 + rows.length) cap) (0 + rows.length) ([] ++ rowCells rows) ?hs ?hown ⟨W0.heap.size, 0, none⟩ 1 1 [.slice ha n hc, .slice da k dc] ?hx rfl ?hnews honeN Nat.one_pos hmx3 hmx4 ?hbase _ rfl ?_; (case hs => (simp [Act.eval, Act.put]; done)); (case hx => (simp [Act.eval, Act.put]; done)); (case hown => exact hown1); (case hnews => exact (news2 r0 r1)); (case hbase => (have := B1.size; simp; try omega)); intro g' cap' w2 hown2 hgrow2 hat2 hlt2; clear tokC)
          | (have _t := tokA; refine step_append_lies _ rfl (.tmp 32) (.tmp 34) 51 rfl W0.heap.size 62 i0 (.agg #[.slice none 0 0, .slice none 0 0]) 2 48 Tryd.underlying51 hi hz0 hz1 hz2 rfl (by decide) (.slice (some ⟨g, 0, none⟩) (0 + rows.length) cap) (0 + rows.length) ([] ++ rowCells rows) ?hs ?hown ⟨w1.heap.size, 0, none⟩ 1 1 [.slice ha n hc, .slice da k dc] ?hx rfl ?hnews honeN Nat.one_pos hmx3 hmx4 ?hbase _ rfl ?_; (case hs => (simp [Act.eval, Act.put]; done)); (case hx => (simp [Act.eval, Act.put]; done)); (case hown => exact (hown1.alloc _)); (case hnews => exact (news2 (Box2.mk w1 _ _ _).1 (Box2.mk w1 _ _ _).2)); (case hbase => (have := B1.size; simp; try omega)); intro g' cap' w2 hown2 hgrow2 hat2 hlt2))
      all_goals
        have B2 : Below W0.heap.size W0 w2 := Below.grown (by first | exact B1 | exact B1.alloc B1.size _) hgrow2 (by have := B1.size; simp; try omega) (by intro k hk; simp [Value.ownBlock] at hk; omega)
        have F2 : Shut (w2.ownsRow W0.heap.size 62 2 (.slice (some ⟨g', 0, none⟩) (rows.length + 1) cap') (rows.length + 1) (rowCells (rows ++ [⟨ha, hc, rh, da, dc, rd⟩])) ∧ Below W0.heap.size W0 w2) := ⟨by rw [HRC.out]; simpa only [Nat.zero_add] using hown2, B2⟩
        go_wp2
        go_meet
        exact ⟨g', cap', by simp, F2⟩
  case rest =>
    obtain ⟨g, cap, rfl, HO⟩ := hcut
    obtain ⟨hO, hBc⟩ := HO.out
    obtain ⟨HA, hgB, hgl, hRl, hcap⟩ := rows_own hO
    have H0 : Shut (AInv W0 wc g n k (rows.length + 1) ((rows ++ [(⟨ha, hc, rh, da, dc, rd⟩ : MRow)]).map fun (x : MRow) => LRow.v x.says) 0 0) := ⟨AInv.start hBc hgB hgl HA (by simp) n1 k1 (by
      intro x hx
      rcases List.mem_append.1 hx with hx | hx
      · exact ⟨hall x hx, hf x hx⟩
      · rw [List.mem_singleton.1 hx]; exact ⟨hr, hfr⟩)⟩
    have HX : Shut (W0.cell? ⟨g0, 0, none⟩ = some (.int .i64 n) ∧ W0.cell? ⟨g0, 1, none⟩ = some (.int .i64 k) ∧ W0.cell? ⟨g2, 0, none⟩ = some (.int .i64 0) ∧ W0.cell? ⟨g2, 1, none⟩ = some (.int .i64 0) ∧ W0.cell? ⟨g2, 2, none⟩ = some (.slice none 0 0) ∧ ∀ j, W0.frozen? ⟨g2, j, none⟩ = false) := ⟨x0, x1, z0, z1, z2, zf⟩
    have xc0 := cellC x0 hBc
    obtain ⟨S, hS⟩ : ∃ S, (rows ++ [(⟨ha, hc, rh, da, dc, rd⟩ : MRow)]).map (fun (x : MRow) => LRow.v x.says) = S := ⟨_, rfl⟩
    rw [hS] at H0
    have HS := Shut.mk hS
    obtain ⟨N, hN⟩ : ∃ N, rows.length + 1 = N := ⟨_, rfl⟩
    rw [hN] at H0 hcap ⊢
    have HN := Shut.mk hN
    have hN25 : N ≤ 25 := by omega
    have hN1 : 1 ≤ N := by omega
    clear HO hO hBc HA hRl hS hN x1 x2 y0 y1 z0 z1 z2 zf HRC hl hall hr hf hn hk hm hgl
    go_wp2
    clear xc0 x0
    go_loopw [8, 38] (fun s8 s38 wr => ∃ c a : Nat, c ≤ n ∧ s38 = .int .i64 c ∧ s8 = .int .i64 a ∧ Shut (AInv W0 wr g n k N S c a)) (fun _ s38 _ => n - (intOf s38).toNat)
    case atStart => exact ⟨0, 0, Nat.zero_le _, rfl, rfl, H0⟩
    case round =>
      clear H0
      obtain ⟨c, a, hcn, rfl, rfl, HI⟩ := hrel
      by_cases hlt : c < n
      · obtain ⟨i1, i2, i3, R, L, i4, i5, i6, i7, i8⟩ := HI.out
        have haN := i7.le
        have bd : Below wr.heap.size wr (wr.alloc (.cells #[.int .i64 c] 3)) := (Below.refl _ _).alloc (Nat.le_refl _) _
        have ck : (wr.alloc (.cells #[.int .i64 c] 3)).cell? ⟨wr.heap.size, 0, none⟩ = some (.int .i64 c) := (Lies.alloc_new wr #[.int .i64 c] 3).at (k := 0) rfl
        have hdl : (R.drop a).length = N - a := by rw [List.length_drop, i4]
        have hI1 : ∀ x ∈ R.drop a, RowIn (wr.alloc (.cells #[.int .i64 c] 3)) x := fun x hx => (i6 x (List.mem_of_mem_drop hx)).1.below bd
        have hI2 : ∀ x ∈ R.drop a, x.h.length = n := fun x hx => (i6 x (List.mem_of_mem_drop hx)).2.1.1
        have hA : ∀ q, Calls Tryd.prog 66 #[.slice (some ⟨g, a * 2, none⟩) (N - a) q, .func (.func 67) #[] #[.pointer (some ⟨wr.heap.size, 0, none⟩)]] (wr.alloc (.cells #[.int .i64 c] 3)) fun e w' => e = .returned (.int .i64 (idx c (R.drop a))) ∧ Below (wr.alloc (.cells #[.int .i64 c] 3)).heap.size (wr.alloc (.cells #[.int .i64 c] 3)) w' := fun q => by
          have h := indexRow_any (some ⟨g, a * 2, none⟩) q (R.drop a) c n wr.heap.size _ (by omega) ((i5.drop).below bd (Nat.le_refl _)) hI1 hI2 hlt n2 ck
          rw [hdl] at h
          exact h
        have hA0 : cap = a → ∀ q, Calls Tryd.prog 66 #[.slice (some ⟨g, 0, none⟩) (N - a) q, .func (.func 67) #[] #[.pointer (some ⟨wr.heap.size, 0, none⟩)]] (wr.alloc (.cells #[.int .i64 c] 3)) fun e w' => e = .returned (.int .i64 (idx c (R.drop a))) ∧ Below (wr.alloc (.cells #[.int .i64 c] 3)).heap.size (wr.alloc (.cells #[.int .i64 c] 3)) w' := fun e q => by
          have hd : R.drop a = [] := List.eq_nil_of_length_eq_zero (by omega)
          have h := indexRow_any (some ⟨g, 0, none⟩) q (R.drop a) c n wr.heap.size _ (by omega) (by rw [hd]; exact Lies.nil _ _) hI1 hI2 hlt n2 ck
          rw [hdl] at h
          exact h
        have HA := Shut.mk hA
        have HA0 := Shut.mk hA0
        have HP : Shut (∀ w', Below (wr.alloc (.cells #[.int .i64 c] 3)).heap.size (wr.alloc (.cells #[.int .i64 c] 3)) w' → Below wr.heap.size wr w') := ⟨fun w' h => bd.trans (h.mono bd.size)⟩
        have HCK : Shut (∀ w', Below (wr.alloc (.cells #[.int .i64 c] 3)).heap.size (wr.alloc (.cells #[.int .i64 c] 3)) w' → w'.cell? ⟨wr.heap.size, 0, none⟩ = some (.int .i64 c)) := ⟨fun w' h => cellC ck h⟩
        have HQ : Shut (∀ w', Below wr.heap.size wr w' → (∀ j (hj : j < (R.drop a).length), (LRow.v (R.drop a)[j].says).has c = false) → AInv W0 w' g n k N S (c + 1) a) := ⟨fun w' h hn => AInv.pass (i1.trans (h.mono i1.size)) i2 (by have := h.size; omega) i4 (i5.below h i3) (fun x hx => (i6 x hx).below h) i7 i8 hn⟩
        have HR4 := Shut.mk i4
        have HI' : Shut (Below W0.heap.size W0 wr ∧ W0.heap.size ≤ g ∧ g < wr.heap.size ∧ RowsAt wr g R ∧ (∀ x ∈ R, Good3 wr g n k x) ∧ El (Vof R) N a c L ∧ ∀ v, Span (rowsOf (Vof R) N) v ↔ Span S v) := ⟨i1, i2, i3, i5, i6, i7, i8⟩
        clear hA hA0 hI1 hI2 hdl bd ck i1 i2 i3 i4 i5 i6 i7 i8
        by_cases hca : cap = a
        · subst hca
          have hA1 := HA0.out rfl
          rw [show N - cap = 0 by omega] at hA1
          have HA1 := Shut.mk hA1
          clear hA1
          go_wp2_with fail
          with_reducible refine (HA1.out _).mono ?_
          rintro e w2 ⟨rfl, hb2⟩
          have hb3 := HP.out w2 hb2
          have hd0 : (R.drop cap).length = 0 := by rw [List.length_drop, HR4.out]; omega
          have hno : ∀ j (hj : j < (R.drop cap).length), (LRow.v (R.drop cap)[j].says).has c = false := fun j hj => by omega
          have R1 : Shut (AInv W0 w2 g n k N S (c + 1) cap) := ⟨HQ.out w2 hb3 hno⟩
          rw [idx_none hno]
          clear hno hd0 HP HCK HA HA0 HA1 hb2 hb3
          go_wp2
          go_roundw
          case rel => exact ⟨c + 1, cap, by omega, by go_num, rfl, R1⟩
          case measure => simp [intOf]; omega
        · go_wp2_with fail
          refine (HA.out _).mono ?_
          rintro e w2 ⟨rfl, hb2⟩
          have hb3 := HP.out w2 hb2
          have ck := HCK.out w2 hb2
          clear HP HCK HA HA0 hb2
          rcases idx_cases c (R.drop a) with ⟨e, hno⟩ | ⟨t, e, ht, hyes⟩
          · rw [e]
            have R1 : Shut (AInv W0 w2 g n k N S (c + 1) a) := ⟨HQ.out w2 hb3 hno⟩
            clear hno e
            go_wp2
            go_roundw
            case rel => exact ⟨c + 1, a, by omega, by go_num, rfl, R1⟩
            case measure => simp [intOf]; omega
          · rw [e]
            have htN : a + t < N := by rw [List.length_drop, HR4.out] at ht; omega
            clear e
            obtain ⟨j1, j2, j3, j4, j5, j6, j7⟩ := HI'.out
            have haR : a < R.length := by rw [HR4.out]; omega
            have htR : a + t < R.length := by rw [HR4.out]; omega
            have q5 := j4.below hb3 j3
            have q6 : ∀ x ∈ R, Good3 w2 g n k x := fun x hx => (j5 x hx).below hb3
            have bb := j1.trans (hb3.mono j1.size)
            have gg : g < w2.heap.size := by have := hb3.size; omega
            obtain ⟨V0, hV0⟩ : ∃ V0, swapR (Vof R) a (a + t) = V0 := ⟨_, rfl⟩
            have HV0 := Shut.mk hV0
            have hST := CInv.start (c := c) bb j2 gg HR4.out q5 q6 haR htR rfl rfl
            rw [hV0] at hST
            have HST := Shut.mk hST
            clear hST
            have HST0 : Shut (t = 0 → CInv W0 ((((w2.setCell ⟨g, a * 2, none⟩ R[a].hv).setCell ⟨g, a * 2 + 1, none⟩ R[a].dv).setCell ⟨g, a * 2, none⟩ R[a].hv).setCell ⟨g, a * 2 + 1, none⟩ R[a].dv) g n k N V0 c a 0) := ⟨fun e => by
              subst e
              have h := CInv.start (c := c) (t := 0) bb j2 gg HR4.out q5 q6 haR htR rfl rfl
              rw [hV0] at h
              exact h⟩
            have HDN : Shut (∀ w', CInv W0 w' g n k N V0 c a N → AInv W0 w' g n k N S (c + 1) (a + 1)) := ⟨fun w' h => by
              rw [← hV0] at h
              exact h.done j6 j7 htN (by rw [Vof_at htR]; rw [List.getElem_drop] at hyes; exact hyes)⟩
            obtain ⟨c0, c1⟩ := q5.cells haR
            obtain ⟨d0, d1⟩ := q5.cells htR
            have fz := q5.2
            have hgk : wr.heap.size ≠ g := by omega
            clear j1 j3 j4 j5 j6 j7 q5 q6 bb HQ HI hb3 hyes hV0 HV0 ht HI'
            generalize R[a]'haR = Ra at *
            generalize R[a + t]'htR = Rt at *
            obtain ⟨gk, hgk'⟩ : ∃ gk, wr.heap.size = gk := ⟨_, rfl⟩
            rw [hgk'] at hgk ck ⊢
            clear hgk'
            go_upto_region 10 with fail
            simp only [MRow.hv, MRow.dv] at c0 c1 d0 d1 HST HST0
            go_cut [38] from 38 to 99 (fun s38 wx => s38 = .int .i64 c ∧ Shut (CInv W0 wx g n k N V0 c a 0) ∧ wx.cell? ⟨gk, 0, none⟩ = some (.int .i64 c))
            case first =>
              rcases Nat.eq_zero_or_pos t with ht0 | ht0
              case' inl =>
                replace HST := Shut.mk (HST0.out ht0)
                subst ht0
                go_region
                obtain ⟨w3, hw3⟩ : ∃ w3, (((w2.setCell ⟨g, a * 2, none⟩ (.slice Ra.ha Ra.h.length Ra.hc)).setCell ⟨g, a * 2 + 1, none⟩ (.slice Ra.da Ra.d.length Ra.dc)).setCell ⟨g, a * 2, none⟩ (.slice Ra.ha Ra.h.length Ra.hc)).setCell ⟨g, a * 2 + 1, none⟩ (.slice Ra.da Ra.d.length Ra.dc) = w3 := ⟨_, rfl⟩
                have ck3 := cell_far4 (o1 := a * 2) (o2 := a * 2 + 1) (o3 := a * 2) (o4 := a * 2 + 1) (u1 := .slice Ra.ha Ra.h.length Ra.hc) (u2 := .slice Ra.da Ra.d.length Ra.dc) (u3 := .slice Ra.ha Ra.h.length Ra.hc) (u4 := .slice Ra.da Ra.d.length Ra.dc) ck hgk
              case' inr =>
                have n1 : ¬ a * 2 = (a + t) * 2 := by omega
                have n2 : ¬ a * 2 + 1 = (a + t) * 2 := by omega
                have n3 : ¬ a * 2 = (a + t) * 2 + 1 := by omega
                have n4 : ¬ a * 2 + 1 = (a + t) * 2 + 1 := by omega
                go_region
                clear n1 n2 n3 n4
                obtain ⟨w3, hw3⟩ : ∃ w3, (((w2.setCell ⟨g, a * 2, none⟩ (.slice Rt.ha Rt.h.length Rt.hc)).setCell ⟨g, a * 2 + 1, none⟩ (.slice Rt.da Rt.d.length Rt.dc)).setCell ⟨g, (a + t) * 2, none⟩ (.slice Ra.ha Ra.h.length Ra.hc)).setCell ⟨g, (a + t) * 2 + 1, none⟩ (.slice Ra.da Ra.d.length Ra.dc) = w3 := ⟨_, rfl⟩
                have ck3 := cell_far4 (o1 := a * 2) (o2 := a * 2 + 1) (o3 := (a + t) * 2) (o4 := (a + t) * 2 + 1) (u1 := .slice Rt.ha Rt.h.length Rt.hc) (u2 := .slice Rt.da Rt.d.length Rt.dc) (u3 := .slice Ra.ha Ra.h.length Ra.hc) (u4 := .slice Ra.da Ra.d.length Ra.dc) ck hgk
              all_goals
                have H3 : Shut (CInv W0 w3.drew g n k N V0 c a 0) := ⟨(by rw [← hw3]; exact HST.out : CInv W0 w3 g n k N V0 c a 0).below ((Below.refl _ _).drew)⟩
                rw [hw3] at ck3 ⊢
                replace ck3 : w3.drew.cell? ⟨gk, 0, none⟩ = some (.int .i64 c) := ck3
                clear hw3 HST HST0 c0 c1 d0 d1 fz ck
                generalize w3.drew = w4 at *
                go_wp2
                go_meet
                exact ⟨rfl, H3, ck3⟩
            case rest =>
              obtain ⟨rfl, H3, ck3⟩ := hcut
              clear HST HST0 c0 c1 d0 d1 fz ck
              go_wp2
              go_loopw [68] (fun m wq => ∃ i : Nat, i ≤ N ∧ m = .int .i64 i ∧ Shut (CInv W0 wq g n k N V0 c a i) ∧ wq.cell? ⟨gk, 0, none⟩ = some (.int .i64 c)) (fun m _ => N - (intOf m).toNat)
              case atStart => exact ⟨0, Nat.zero_le _, rfl, H3, ck3⟩
              case round =>
                obtain ⟨i, hiN, rfl, HC, ck⟩ := hrel
                clear H3 ck3
                by_cases hi : i < N
                · by_cases hia : i = a
                  · have e1 : ((i : Int) != (a : Int)) = false := by simp [hia]
                    have HC2 := Shut.mk (HC.out.stay hi (by simp [clrR, hia]))
                    clear hia HC
                    go_upto_region 14 with fail
                    go_quiet (fail)
                    replace HC2 := Shut.mk (HC2.out.below (bdn wr nq wr.heap.size))
                    replace ck : (wr.drewN nq).cell? ⟨gk, 0, none⟩ = some (.int .i64 c) := cellC ck (bdn wr nq wr.heap.size)
                    generalize wr.drewN nq = w5 at *
                    go_wp2
                    go_roundw
                    case rel => exact ⟨i + 1, by omega, by go_num, HC2, ck⟩
                    case measure => simp [intOf]; omega
                  · have e1 : ((i : Int) != (a : Int)) = true := by simp; omega
                    obtain ⟨b1', b2', b3, R2, b4, b5, b6, b7⟩ := HC.out
                    have hiR : i < R2.length := by omega
                    have haR2 : a < R2.length := by omega
                    have hG := b6 _ (List.getElem_mem hiR)
                    have hcl : c < R2[i].h.length := by rw [show R2[i].h.length = n from hG.2.1.1]; exact hlt
                    obtain ⟨x0, x1⟩ := b5.cells hiR
                    obtain ⟨bh, oh, hbh⟩ := hG.1.1.some (k := c) (by simpa using hcl)
                    have y0 : wr.cell? ⟨bh, oh + c, none⟩ = some (.bool R2[i].h[c]) := by
                      have h := hG.1.1
                      rw [hbh] at h
                      exact h.at (by simp [hcl])
                    have hvc : (LRow.v R2[i].says).has c = R2[i].h[c] := LRow.v_has hcl
                    have eVi : V0 i = LRow.v R2[i].says := by have h := b7 i hi; rw [if_neg (by omega), Vof_at hiR] at h; exact h.symm
                    cases hx : R2[i].h[c]
                    · have HC2 := Shut.mk (HC.out.stay hi (by rw [clrR, if_neg hia, clr, eVi, hvc, hx]; simp))
                      rw [hx] at y0
                      clear hx hvc eVi HC b1' b2' b3 b5 b6 b7 hG hia
                      generalize R2[i]'hiR = Ri at *
                      obtain ⟨rha, rhc, rh', rda, rdc, rd'⟩ := Ri
                      simp only [MRow.hv, MRow.dv] at *
                      subst hbh
                      go_upto_region 14 with fail
                      go_quiet (fail)
                      replace HC2 := Shut.mk (HC2.out.below (bdn wr nq wr.heap.size))
                      replace ck : (wr.drewN nq).cell? ⟨gk, 0, none⟩ = some (.int .i64 c) := cellC ck (bdn wr nq wr.heap.size)
                      clear x0 x1 y0
                      generalize wr.drewN nq = w5 at *
                      go_wp2
                      go_roundw
                      case rel => exact ⟨i + 1, by omega, by go_num, HC2, ck⟩
                      case measure => simp [intOf]; omega
                    · have HBO : Shut (∀ w' w5 t, Below wr.heap.size wr w' → Below w'.heap.size w' w5 → RowIn w5 t → t.h = xorH R2[i].h R2[a].h → t.d = xorl R2[i].d R2[a].d → (∀ b o, t.ha = some ⟨b, o, none⟩ → w'.heap.size ≤ b) → (∀ b o, t.da = some ⟨b, o, none⟩ → w'.heap.size ≤ b) → CInv W0 ((w5.setCell ⟨g, i * 2, none⟩ t.hv).setCell ⟨g, i * 2 + 1, none⟩ t.dv) g n k N V0 c a (i + 1)) := ⟨fun w' w5 t h1 h2 h3 h4 h5 h6 h7 => CInv.both (b1'.trans (h1.mono b1'.size)) b2' (by have := h1.size; omega) b4 (b5.below h1 b3) (fun x hx => (b6 x hx).below h1) b7 hiR haR2 hia (by rw [hvc, hx]) h2 h3 h4 h5 h6 h7⟩
                      have hGa := b6 _ (List.getElem_mem haR2)
                      obtain ⟨z0, z1⟩ := b5.cells haR2
                      have fz := b5.2
                      have hCB : ∀ w', Below wr.heap.size wr w' → Calls Tryd.prog 68 #[.agg #[R2[i].hv, R2[i].dv], .agg #[R2[a].hv, R2[a].dv]] w' _ := fun w' h => both_any R2[i] R2[a] n k w' ((hG.1).below h) ((hGa.1).below h) hG.2.1.1 hGa.2.1.1 n2 hG.2.1.2 hGa.2.1.2 k2
                      rw [hx] at y0
                      clear hx hvc eVi HC b1' b2' b5 b6 b7 hG hGa hia
                      generalize R2[i]'hiR = Ri at *
                      generalize R2[a]'haR2 = Ra2 at *
                      obtain ⟨rha, rhc, rh', rda, rdc, rd'⟩ := Ri
                      obtain ⟨sha, shc, sh', sda, sdc, sd'⟩ := Ra2
                      simp only [MRow.hv, MRow.dv] at *
                      subst hbh
                      go_upto_region 14 with fail
                      go_quiet (fail)
                      have bq := bdn wr nq wr.heap.size
                      replace x0 := cellC x0 bq
                      replace x1 := cellC x1 bq
                      replace z0 := cellC z0 bq
                      replace z1 := cellC z1 bq
                      replace ck : (wr.drewN nq).cell? ⟨gk, 0, none⟩ = some (.int .i64 c) := cellC ck bq
                      replace fz : ∀ j, (wr.drewN nq).frozen? ⟨g, j, none⟩ = false := fun j => by rw [bq.frozen (p := ⟨g, j, none⟩) b3]; exact fz j
                      have hCB2 := hCB (wr.drewN nq).drew (bq.trans ((Below.refl _ _).drew))
                      have HBO2 := Shut.mk (HBO.out (wr.drewN nq).drew · · (bq.trans ((Below.refl _ _).drew)))
                      have hg5 : g < (wr.drewN nq).heap.size := by have := bq.size; omega
                      clear y0 hCB HBO bq b3
                      generalize wr.drewN nq = w5 at *
                      go_upto_region 15 with fail
                      go_region_with (first | (go_at_call 68; refine hCB2.mono ?_; rintro e w6 ⟨tr, rfl, ht6, h61, h62, hb6, f61, f62⟩; have H61 := Shut.mk h61; have H62 := Shut.mk h62; clear h61 h62; have s0 := cellC (w := w5.drew) x0 hb6; have s1 := cellC (w := w5.drew) x1 hb6; have sf : ∀ j, w6.frozen? ⟨g, j, none⟩ = false := fun j => (hb6.frozen (p := ⟨g, j, none⟩) hg5).trans (fz j)))
                      all_goals
                        have R9 := Shut.mk (HBO2.out w6 tr hb6 ht6 H61.out H62.out f61 f62)
                        have ck9 := cell_far2 (o1 := i * 2) (o2 := i * 2 + 1) (u1 := .slice tr.ha tr.h.length tr.hc) (u2 := .slice tr.da tr.d.length tr.dc) (cellC (w := w5.drew) ck hb6) hgk
                        clear s0 s1 sf x0 x1 z0 z1 hCB2 HBO2 ht6 H61 H62 hb6 f61 f62 fz ck
                        generalize (w6.setCell ⟨g, i * 2, none⟩ (.slice tr.ha tr.h.length tr.hc)).setCell ⟨g, i * 2 + 1, none⟩ (.slice tr.da tr.d.length tr.dc) = w7 at *
                        go_wp2
                        go_roundw
                        case rel => exact ⟨i + 1, by omega, by go_num, R9, ck9⟩
                        case measure => simp [intOf]; omega
                · obtain rfl : i = N := by omega
                  have R9 := Shut.mk (HDN.out _ HC.out)
                  clear HC HDN
                  go_wp2
                  go_roundw
                  case rel => exact ⟨c + 1, a + 1, by omega, by go_num, by go_num, R9⟩
                  case measure => simp [intOf]; omega
      · have HCN : Shut (c = n) := ⟨by omega⟩
        obtain ⟨i1, i2, i3, R, L, i4, i5, i6, i7, i8⟩ := HI.out
        obtain ⟨y0, y1, y2, y3, y4, y5⟩ := HX.out
        have x0 := cellC y0 i1
        have x1 := cellC y1 i1
        have z0 := cellC y2 i1
        have z1 := cellC y3 i1
        have z2 := cellC y4 i1
        have zf : ∀ j, wr.frozen? ⟨g2, j, none⟩ = false := fun j => by rw [i1.frozen (p := ⟨g2, j, none⟩) o3]; exact y5 j
        have ZN : Shut (∀ j v, wr.cell? ⟨g2, j, none⟩ = some v → v = .int .i64 0 ∨ v = .slice none 0 0) := ⟨fun j v h => zn.out j v (by rw [i1.cell (p := ⟨g2, j, none⟩) o3] at h; exact h)⟩
        have hbw : Below g0 w wr := hB.trans (i1.mono (by omega))
        have zf0 := zf 0
        have zf1 := zf 1
        have zf2 := zf 2
        have haN := i7.le
        have H7 : Shut (El (Vof R) N a n L) := ⟨by rw [← HCN.out]; exact i7⟩
        clear y0 y1 y2 y3 y4 y5 zf HI HX
        by_cases hae : a = N
        · have e1 : ((a : Int) == (N : Int)) = true := by simp [hae]
          have HAE := Shut.mk hae
          have HB := AInv.box (w := w) (S := S) (N := N) (a := a) (W0 := W0) i2 o3 i5 i6 n1 k1 ZN.out (grown_set3 wr g2 (.int .i64 n) (.int .i64 k) (.slice (some ⟨g, 0, none⟩) N cap))
          have HBB : Below g0 w (((wr.setCell ⟨g2, 0, none⟩ (.int .i64 n)).setCell ⟨g2, 1, none⟩ (.int .i64 k)).setCell ⟨g2, 2, none⟩ (.slice (some ⟨g, 0, none⟩) N cap)) := ((hbw.setCell (p := ⟨g2, 0, none⟩) (by simp; omega) _).setCell (p := ⟨g2, 1, none⟩) (by simp; omega) _).setCell (p := ⟨g2, 2, none⟩) (by simp; omega) _
          obtain ⟨u0, u1, u2⟩ := set3 z0 z1 z2 (.int .i64 n) (.int .i64 k) (.slice (some ⟨g, 0, none⟩) N cap)
          clear hae i5 i6 i7
          go_wp2
          generalize ((wr.setCell ⟨g2, 0, none⟩ (.int .i64 n)).setCell ⟨g2, 1, none⟩ (.int .i64 k)).setCell ⟨g2, 2, none⟩ (.slice (some ⟨g, 0, none⟩) N cap) = w9 at *
          refine bodyPost_ret (v := .tuple #[.agg #[.int .i64 n, .int .i64 k, .slice (some ⟨g, 0, none⟩) N cap], .bool true, .int .i64 0]) (by simp [results, Tryd.results39, go_sem, u0, u1, u2]) rfl ?_
          refine ⟨by rw [HG.out]; exact HBB, R, a, L, ?_, HB.2, ?_, ?_, .inl ⟨?_, g, cap, ?_, HB.1⟩⟩
          · rw [HN.out]; exact i4
          · rw [HN.out]; exact H7.out
          · rw [HN.out, HS.out]; exact i8
          · rw [HN.out]; exact HAE.out
          · rw [HN.out]
        · have hlt2 : a < N := by omega
          have haR : a < R.length := by omega
          have e1 : ((a : Int) == (N : Int)) = false := by simp; omega
          obtain ⟨c0, c1⟩ := i5.cells haR
          have hG := i6 _ (List.getElem_mem haR)
          have hld := hG.1.2.1
          have hdk : R[a].d.length ≤ 16 := by have h : R[a].d.length = k := hG.2.1.2; omega
          have HVA : Shut (∀ j, (Vof R a).dat j = R[a].d.getD j 0) := ⟨fun j => by rw [Vof_at haR]; rfl⟩
          have HB0 := AInv.box (w := w) (S := S) (N := N) (a := a) (W0 := W0) i2 o3 i5 i6 n1 k1 ZN.out (grown_set3 wr g2 (.int .i64 0) (.int .i64 0) (.slice none 0 0))
          have HB1 := AInv.box (w := w) (S := S) (N := N) (a := a) (W0 := W0) i2 o3 i5 i6 n1 k1 ZN.out (grown_set3 wr g2 (.int .i64 n) (.int .i64 k) (.slice (some ⟨g, 0, none⟩) a cap))
          have HBx : ∀ x y z : Value, Below g0 w (((wr.setCell ⟨g2, 0, none⟩ x).setCell ⟨g2, 1, none⟩ y).setCell ⟨g2, 2, none⟩ z) := fun x y z => ((hbw.setCell (p := ⟨g2, 0, none⟩) (by simp; omega) _).setCell (p := ⟨g2, 1, none⟩) (by simp; omega) _).setCell (p := ⟨g2, 2, none⟩) (by simp; omega) _
          have HBB0 := Shut.mk (HBx (.int .i64 0) (.int .i64 0) (.slice none 0 0))
          have HBB1 := Shut.mk (HBx (.int .i64 n) (.int .i64 k) (.slice (some ⟨g, 0, none⟩) a cap))
          have HU0 := Shut.mk (set3 z0 z1 z2 (.int .i64 0) (.int .i64 0) (.slice none 0 0))
          have HU1 := Shut.mk (set3 z0 z1 z2 (.int .i64 n) (.int .i64 k) (.slice (some ⟨g, 0, none⟩) a cap))
          have HH0 := Shut.mk HB0
          have HH1 := Shut.mk HB1
          clear hae i5 i6 i7 hG HB0 HB1 HBx
          generalize R[a]'haR = Ra at *
          obtain ⟨rha, rhc, rh', rda, rdc, rd'⟩ := Ra
          simp only [MRow.hv, MRow.dv] at c0 c1 hld hdk HVA
          go_wp2
          go_loopw [116] (fun m wq => ∃ p : Nat, p ≤ rd'.length ∧ m = .int .i64 p ∧ wq = wr ∧ Shut (∀ j (hj : j < rd'.length), j < p → rd'[j] = 0)) (fun m _ => rd'.length - (intOf m).toNat)
          case atStart => exact ⟨0, Nat.zero_le _, rfl, rfl, ⟨fun j _ hj => by omega⟩⟩
          case round =>
            obtain ⟨p, hp, rfl, rfl, HD⟩ := hrel
            by_cases hlp : p < rd'.length
            · obtain ⟨b1, o1', rfl⟩ := hld.some (k := p) (by simpa [bs] using hlp)
              have c2 : wr.cell? ⟨b1, o1' + p, none⟩ = some (.int .u8 rd'[p].toNat) := hld.at (by simp [bs, hlp])
              by_cases h0 : rd'[p] = 0
              · have HD2 : Shut (∀ j (hj : j < rd'.length), j < p + 1 → rd'[j] = 0) := ⟨fun j hj hjp => by
                  by_cases e : j = p
                  · subst e; exact h0
                  · exact HD.out j hj (by omega)⟩
                rw [h0] at c2
                clear h0 HD hld
                go_wp2
                go_roundw
                case rel => exact ⟨p + 1, by omega, by go_num, by trivial, HD2⟩
                case measure => simp [intOf]; omega
              · have e2 : ((rd'[p].toNat : Int) != 0) = true := by
                  simp
                  intro h
                  exact h0 (UInt8.toNat_inj.1 (by simpa using h))
                have HNZ : Shut (∃ j, (Vof R a).dat j ≠ 0) := ⟨p, by rw [HVA.out p]; simp [hlp, h0]⟩
                clear h0 HD hld HVA
                generalize rd'[p].toNat = bt at *
                go_wp2
                obtain ⟨u0, u1, u2⟩ := HU0.out
                have HBB := HBB0.out
                have HH := HH0.out
                clear HU0 HU1 HBB0 HBB1 HH0 HH1
                generalize ((wr.setCell ⟨g2, 0, none⟩ (.int .i64 0)).setCell ⟨g2, 1, none⟩ (.int .i64 0)).setCell ⟨g2, 2, none⟩ (.slice none 0 0) = w9 at *
                refine bodyPost_ret (v := .tuple #[.agg #[.int .i64 0, .int .i64 0, .slice none 0 0], .bool false, .int .i64 9]) (by simp [results, Tryd.results39, go_sem, u0, u1, u2]) rfl ?_
                refine ⟨by rw [HG.out]; exact HBB, R, a, L, ?_, HH.2, ?_, ?_, .inr (.inl ⟨?_, HNZ.out, rfl⟩)⟩
                · rw [HN.out]; exact i4
                · rw [HN.out]; exact H7.out
                · rw [HN.out, HS.out]; exact i8
                · rw [HN.out]; exact hlt2
            · have HZ : Shut (∀ j, (Vof R a).dat j = 0) := ⟨fun j => by
                rw [HVA.out j]
                by_cases hj : j < rd'.length
                · simp [hj, HD.out j hj (by omega)]
                · simp [show rd'.length ≤ j by omega]⟩
              clear HD hld HVA
              go_upto_region 27 with fail
              go_region
              all_goals
                obtain ⟨u0, u1, u2⟩ := HU1.out
                have HBB := HBB1.out
                have HH := HH1.out
                clear HU0 HU1 HBB0 HBB1 HH0 HH1
                generalize ((wr.setCell ⟨g2, 0, none⟩ (.int .i64 n)).setCell ⟨g2, 1, none⟩ (.int .i64 k)).setCell ⟨g2, 2, none⟩ (.slice (some ⟨g, 0, none⟩) a cap) = w9 at *
                have bd9 : Below w9.heap.size w9 w9.drew := (Below.refl _ _).drew
                go_wp2
                refine bodyPost_ret (v := .tuple #[.agg #[.int .i64 n, .int .i64 k, .slice (some ⟨g, 0, none⟩) a cap], .bool false, .int .i64 0]) (by simp [results, Tryd.results39, go_sem, u0, u1, u2]) rfl ?_
                refine ⟨by rw [HG.out]; exact HBB.drew, R, a, L, ?_, fun x hx => ⟨(HH.2 x hx).1.below bd9, (HH.2 x hx).2⟩, ?_, ?_, .inr (.inr ⟨?_, HZ.out, g, cap, rfl, lies_takeR (HH.1.below bd9 (Nat.le_refl _)) a⟩)⟩
                · rw [HN.out]; exact i4
                · rw [HN.out]; exact H7.out
                · rw [HN.out, HS.out]; exact i8
                · rw [HN.out]; exact hlt2

end Go.Proofs.YtkiejflgphjfjacDoor
