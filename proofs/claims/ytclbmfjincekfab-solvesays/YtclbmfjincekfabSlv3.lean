/-
  slices.Clone at bools and at blocks; solve.rowCopy: the contract of each.
-/
import Derived.Test.YtclbmfjincekfabRow2
import Derived.Test.YtclbmfjincekfabRow4
import Derived.Test.YtclbmfjincekfabSlvPure
import Derived.Lib.SliceRun
import Derived.Deep.RegionHeld3
namespace Go.Proofs.Ytclbmfjincekfab
open Go.RowKit
set_option linter.unusedVariables false
set_option linter.unusedSimpArgs false

theorem cloneH_any (b o cap n : Nat) (xs : List Bool) (w : World) (hx : xs.length = n) (hn : n ≤ 24) (ha : Lies w (some ⟨b, o, none⟩) (xs.map Value.bool)) :
    Calls Try.prog 42 #[.slice (some ⟨b, o, none⟩) n cap] w fun e w' => ∃ (p : Option Addr) (q : Nat), e = .returned (.slice p n q) ∧ Lies w' p (xs.map Value.bool) ∧ Below w.heap.size w w' ∧ n ≤ q ∧ ∀ c o, p = some ⟨c, o, none⟩ → w.heap.size ≤ c := by
  subst hx
  obtain ⟨i0, hi, hz0, hz1, hz2⟩ := info_parts infoBool
  have hne : ∀ W : World, (binOp .eql 25 (.slice (some ⟨b, o, none⟩) xs.length cap) (.slice none 0 0)).run Try.prog W = .ok (.bool false) W := fun W => Lib.run_eql_slice_nil W 25 4 (some ⟨b, o, none⟩) xs.length cap 0 0 Try.underlying25
  go_enter Try.func42, Try.ntmps42
  have hown : (w.alloc (.cells #[] 4)).ownsRow w.heap.size 4 1 (.slice (some ⟨w.heap.size, 0, none⟩) 0 0) 0 [] :=
    ⟨rfl, .inr ⟨w.heap.size, 0, #[], rfl, Nat.le_refl _, by rw [heap_alloc_eq, if_pos rfl], Nat.le_refl _, by unfold maxLen; omega, rfl, rfl⟩⟩
  have hla := ha.alloc (.cells #[] 4)
  clear ha
  go_wp2_with (first | (at_builtin; refine wpList_append_own _ rfl _ _ 25 rfl w.heap.size 4 i0 (.bool false) 1 1 Try.underlying25 hi hz0 hz1 hz2 rfl (by decide) _ _ _ rfl hown ⟨b, o, none⟩ xs.length cap (xs.map Value.bool) rfl ?c0 ?c1 ?c2 ?c3 ?c4 ?c5 ?_) | go_in)
  case c0 => simp
  case c1 =>
    intro j u hj
    have := hla.at hj
    simpa [Addr.add_lit] using this
  case c2 =>
    intro v hv
    obtain ⟨x, _, rfl⟩ := List.mem_map.1 hv
    rfl
  case c3 => unfold maxLen; omega
  case c4 => omega
  case c5 => simp
  intro v' w' hown' hgrow _
  have hb : Below w.heap.size w w' := ((Below.refl _ _).alloc (Nat.le_refl _) _).grown hgrow (by simp) fun g hg => (hown.lt g hg).1
  clear hgrow hown hla
  obtain ⟨p, q, hv, hpq⟩ := own_slice hown'
  subst hv
  obtain ⟨p', q', hv', hlp, _⟩ := own_lies hown'
  cases hv'
  go_wp2
  go_ret
  exact ⟨p, q, rfl, hlp, hb, hpq, fun c o e => by subst e; exact (hown'.lt c rfl).1⟩

theorem cloneD_any (b o cap k : Nat) (xs : List UInt8) (w : World) (hx : xs.length = k) (hn : k ≤ 16) (ha : Lies w (some ⟨b, o, none⟩) (bs xs)) :
    Calls Try.prog 25 #[.slice (some ⟨b, o, none⟩) k cap] w fun e w' => ∃ (p : Option Addr) (q : Nat), e = .returned (.slice p k q) ∧ Lies w' p (bs xs) ∧ Below w.heap.size w w' ∧ k ≤ q ∧ ∀ c o, p = some ⟨c, o, none⟩ → w.heap.size ≤ c := by
  subst hx
  obtain ⟨i0, hi, hz0, hz1, hz2⟩ := info_parts infoU8
  have hne : ∀ W : World, (binOp .eql 27 (.slice (some ⟨b, o, none⟩) xs.length cap) (.slice none 0 0)).run Try.prog W = .ok (.bool false) W := fun W => Lib.run_eql_slice_nil W 27 5 (some ⟨b, o, none⟩) xs.length cap 0 0 Try.underlying27
  go_enter Try.func25, Try.ntmps25
  have hown : (w.alloc (.cells #[] 5)).ownsRow w.heap.size 5 1 (.slice (some ⟨w.heap.size, 0, none⟩) 0 0) 0 [] :=
    ⟨rfl, .inr ⟨w.heap.size, 0, #[], rfl, Nat.le_refl _, by rw [heap_alloc_eq, if_pos rfl], Nat.le_refl _, by unfold maxLen; omega, rfl, rfl⟩⟩
  have hla := ha.alloc (.cells #[] 5)
  clear ha
  go_wp2_with (first | (at_builtin; refine wpList_append_own _ rfl _ _ 27 rfl w.heap.size 5 i0 (.int .u8 0) 1 1 Try.underlying27 hi hz0 hz1 hz2 rfl (by decide) _ _ _ rfl hown ⟨b, o, none⟩ xs.length cap (bs xs) rfl ?c0 ?c1 ?c2 ?c3 ?c4 ?c5 ?_) | go_in)
  case c0 => simp [bs]
  case c1 =>
    intro j u hj
    have := hla.at hj
    simpa [Addr.add_lit] using this
  case c2 =>
    intro v hv
    obtain ⟨x, _, rfl⟩ := List.mem_map.1 hv
    rfl
  case c3 => unfold maxLen; omega
  case c4 => omega
  case c5 => simp
  intro v' w' hown' hgrow _
  have hb : Below w.heap.size w w' := ((Below.refl _ _).alloc (Nat.le_refl _) _).grown hgrow (by simp) fun g hg => (hown.lt g hg).1
  clear hgrow hown hla
  obtain ⟨p, q, hv, hpq⟩ := own_slice hown'
  subst hv
  obtain ⟨p', q', hv', hlp, _⟩ := own_lies hown'
  cases hv'
  go_wp2
  go_ret
  exact ⟨p, q, rfl, hlp, hb, hpq, fun c o e => by subst e; exact (hown'.lt c rfl).1⟩

/-- a row that lies in memory from B on -/
def NewRow (B : Nat) (w : World) (r : MRow) : Prop := RowIn w r ∧ (∀ b o, r.ha = some ⟨b, o, none⟩ → B ≤ b) ∧ (∀ b o, r.da = some ⟨b, o, none⟩ → B ≤ b) ∧ r.h.length ≤ r.hc

theorem NewRow.below {B : Nat} {w w' : World} {r : MRow} (h : NewRow B w r) (hb : Below w.heap.size w w') : NewRow B w' r := ⟨h.1.below hb, h.2⟩
theorem NewRow.mono {B B' : Nat} {w : World} {r : MRow} (h : NewRow B w r) (hB : B' ≤ B) : NewRow B' w r := ⟨h.1, fun b o e => Nat.le_trans hB (h.2.1 b o e), fun b o e => Nat.le_trans hB (h.2.2.1 b o e), h.2.2.2⟩

theorem alloc2 (w : World) (o0 o1 : Obj) : ((w.alloc o0).alloc o1).heap[w.heap.size]? = some o0 ∧ ((w.alloc o0).alloc o1).heap[w.heap.size + 1]? = some o1 := by
  simp only [heap_alloc_eq, size_alloc_eq]
  refine ⟨?_, ?_⟩
  · rw [if_neg (by omega), if_pos (by first | omega | trivial)]
  · rw [if_pos (by first | omega | trivial)]

theorem lies_off {w : World} {a : Option Addr} {xs : List Value} {g : Nat} (h : Lies w a xs) (hp : 0 < xs.length) (hg : w.heap.size ≤ g) : ∀ b o, a = some ⟨b, o, none⟩ → b ≠ g := by
  intro b o e
  subst e
  have := World.block_lt_of_cell? w _ (h.at (k := 0) (List.getElem?_eq_getElem hp))
  simp at this
  omega

set_option maxHeartbeats 1000000 in
theorem rowCopy_any (r : MRow) (n k : Nat) (w : World) (hr : RowIn w r) (hf : Fits n k r.says) (n1 : 1 ≤ n) (n2 : n ≤ 24) (k1 : 1 ≤ k) (k2 : k ≤ 16) :
    Calls Try.prog 35 #[.agg #[r.hv, r.dv]] w fun e w' => ∃ t : MRow, e = .returned (.agg #[t.hv, t.dv]) ∧ NewRow w.heap.size w' t ∧ t.says = r.says ∧ Below w.heap.size w w' := by
  obtain ⟨ha, hc, rh, da, dc, rd⟩ := r
  obtain ⟨h1, h2, _, _⟩ := hr
  obtain ⟨f1, f2⟩ := hf
  simp only [MRow.hv, MRow.dv, MRow.says] at *
  obtain ⟨hb0, ho0, rfl⟩ := h1.some (k := 0) (by simp; omega)
  obtain ⟨db0, do0, rfl⟩ := h2.some (k := 0) (by simp [bs]; omega)
  rw [f1, f2]
  have HF1 := Shut.mk f1
  have HF2 := Shut.mk f2
  obtain ⟨blk0, blk1⟩ := alloc2 w (.cells #[.slice (some ⟨hb0, ho0, none⟩) n hc, .slice (some ⟨db0, do0, none⟩) k dc] 29) (.cells #[.slice none 0 0, .slice none 0 0] 29)
  have hB : Below w.heap.size w ((w.alloc (.cells #[.slice (some ⟨hb0, ho0, none⟩) n hc, .slice (some ⟨db0, do0, none⟩) k dc] 29)).alloc (.cells #[.slice none 0 0, .slice none 0 0] 29)) := ((Below.refl _ _).alloc (Nat.le_refl _) _).alloc (by simp) _
  clear f1 f2
  go_enter Try.func35, Try.ntmps35
  go_upto_region 1 with fail
  obtain ⟨W0, hW0⟩ : ∃ W0, (w.alloc (.cells #[.slice (some ⟨hb0, ho0, none⟩) n hc, .slice (some ⟨db0, do0, none⟩) k dc] 29)).alloc (.cells #[.slice none 0 0, .slice none 0 0] 29) = W0 := ⟨_, rfl⟩
  have hsz : W0.heap.size = w.heap.size + 2 := by rw [← hW0]; simp
  rw [hW0] at blk0 blk1 hB ⊢
  clear hW0
  have x0 : W0.cell? ⟨w.heap.size, 0, none⟩ = some (.slice (some ⟨hb0, ho0, none⟩) n hc) := by simp [World.cell?, blk0]
  have x1 : W0.cell? ⟨w.heap.size, 1, none⟩ = some (.slice (some ⟨db0, do0, none⟩) k dc) := by simp [World.cell?, blk0]
  have y0 : W0.cell? ⟨w.heap.size + 1, 0, none⟩ = some (.slice none 0 0) := by simp [World.cell?, blk1]
  have y1 : W0.cell? ⟨w.heap.size + 1, 1, none⟩ = some (.slice none 0 0) := by simp [World.cell?, blk1]
  have yf : ∀ j, W0.frozen? ⟨w.heap.size + 1, j, none⟩ = false := fun j => by simp [World.frozen?, blk1]
  replace x0 : W0.drew.cell? _ = _ := x0
  replace x1 : W0.drew.cell? _ = _ := x1
  replace y0 : W0.drew.cell? _ = _ := y0
  replace y1 : W0.drew.cell? _ = _ := y1
  replace yf : ∀ j, W0.drew.frozen? _ = _ := yf
  have hB1 : Below w.heap.size w W0.drew := hB.drew
  have hsz1 : W0.drew.heap.size = w.heap.size + 2 := hsz
  have l1 := h1.below hB1 (Nat.le_refl _)
  have l2 := h2.below hB1 (Nat.le_refl _)
  have HY := Shut.mk (And.intro y0 (And.intro y1 yf))
  have HX := Shut.mk (And.intro x0 x1)
  have HZ := Shut.mk hsz1
  clear blk0 blk1 hB hsz y0 y1 yf h1 h2 hsz1
  go_region_held3 (fun w' => w'.cell? ⟨w.heap.size, 0, none⟩ = some (.slice (some ⟨hb0, ho0, none⟩) n hc) ∧ w'.cell? ⟨w.heap.size, 1, none⟩ = some (.slice (some ⟨db0, do0, none⟩) k dc)) (refine ⟨?_, ?_⟩ <;> first | assumption | (rw [World.cell?_setCell_other _ _ _ _ (by intro e; injection e; omega), World.cell?_setCell_other _ _ _ _ (by intro e; injection e; omega)]; assumption)) (first | (go_at_call 42; refine (cloneH_any hb0 ho0 hc n rh _ HF1.out n2 l1).mono ?_; rintro e w4 ⟨p4, q4, rfl, l4, hb4, hq4, hn4⟩; have v0 := cellC (w := W0.drew) HX.out.1 hb4; have v1 := cellC (w := W0.drew) HX.out.2 hb4) | (go_at_call 25; refine (cloneD_any db0 do0 dc k rd _ HF2.out k2 (l2.below hb4 (Nat.le_refl _))).mono ?_; rintro e w5 ⟨p5, q5, rfl, l5, hb5, hq5, hn5⟩; have v2 := cellC v0 hb5; have v3 := cellC v1 hb5; have b5 := hb4.trans (hb5.mono hb4.size); have s0 := cellC (w := W0.drew) HY.out.1 b5; have s1 := cellC (w := W0.drew) HY.out.2.1 b5; have s2 := ((bcell b5).2 (w.heap.size + 1) 0 (by rw [HZ.out]; omega)).trans (HY.out.2.2 0); have s3 := ((bcell b5).2 (w.heap.size + 1) 1 (by rw [HZ.out]; omega)).trans (HY.out.2.2 1)))
  all_goals
    have hz := hb4.size
    rw [HZ.out] at hz hn4
    have l6 := l4.below hb5 (Nat.le_refl _)
    obtain ⟨z0, z1⟩ := set2' s0 s1 (.slice p4 n q4) (.slice p5 k q5)
    have gr := grown_trans (grown_setCell w5 (w.heap.size + 1) 0 (.slice p4 n q4)) (grown_setCell _ (w.heap.size + 1) 1 (.slice p5 k q5))
    have l7 := lies_grown gr l6 fun b o e => by have := hn4 b o e; omega
    have l8 := lies_grown gr l5 fun b o e => by have := hn5 b o e; omega
    have hbF := ((hB1.trans (b5.mono (by rw [HZ.out]; omega))).setCell (p := ⟨w.heap.size + 1, 0, none⟩) (by simp) (.slice p4 n q4)).setCell (p := ⟨w.heap.size + 1, 1, none⟩) (by simp) (.slice p5 k q5)
    clear gr l6 l4 l5 hb4 hb5 b5 v0 v1 v2 v3 s0 s1 s2 s3
    generalize (w5.setCell ⟨w.heap.size + 1, 0, none⟩ (.slice p4 n q4)).setCell ⟨w.heap.size + 1, 1, none⟩ (.slice p5 k q5) = w9 at *
    go_wp2
    refine bodyPost_ret (v := .agg #[.slice p4 n q4, .slice p5 k q5]) (by simp [results, Try.results35, go_sem, z0, z1]) rfl ?_
    refine ⟨⟨p4, q4, rh, p5, q5, rd⟩, by simp only [HF1.out, HF2.out], ⟨⟨l7, l8, by simp only [HF1.out]; unfold maxLen; omega, by simp only [HF2.out]; unfold maxLen; omega⟩, fun b o e => by have := hn4 b o e; omega, fun b o e => by have := hn5 b o e; omega, by simp only [HF1.out]; exact hq4⟩, rfl, hbF⟩

end Go.Proofs.Ytclbmfjincekfab
