import Derived.Test.YtakkajjoeimkdaaGreatDoorPart6
import Derived.Test.YtakkajjoeimkdaaGreatDoorPart5
import Derived.Test.YtakkajjoeimkdaaGreatDoorPart9
import Derived.Lib.SliceRun
import Derived.Deep.RegionHeld3
import Derived.RegionTactic
namespace Go.Proofs.YtakkajjoeimkdaaGreatDoor
open Go.RowKit
set_option linter.unusedVariables false
set_option linter.unusedSimpArgs false

theorem cloneH_any (b o cap n : Nat) (xs : List Bool) (w : World) (hx : xs.length = n) (hn : n ≤ 24) (ha : Lies w (some ⟨b, o, none⟩) (xs.map Value.bool)) :
  Calls Tryz.prog 226 #[.slice (some ⟨b, o, none⟩) n cap] w fun e w' => ∃ (p : Option Addr) (q : Nat), e = .returned (.slice p n q) ∧ Lies w' p (xs.map Value.bool) ∧ Below w.heap.size w w' ∧ n ≤ q ∧ ∀ c o, p = some ⟨c, o, none⟩ → w.heap.size ≤ c := by
 subst hx
 obtain ⟨i0, hi, hz0, hz1, hz2⟩ := info_parts infoBool
 have hne : ∀ W : World, (binOp .eql 231 (.slice (some ⟨b, o, none⟩) xs.length cap) (.slice none 0 0)).run Tryz.prog W = .ok (.bool false) W := fun W => Lib.run_eql_slice_nil W 231 4 (some ⟨b, o, none⟩) xs.length cap 0 0 Tryz.underlying231
 go_enter Tryz.func226, Tryz.ntmps226
 have hown : (w.alloc (.cells #[] 4)).ownsRow w.heap.size 4 1 (.slice (some ⟨w.heap.size, 0, none⟩) 0 0) 0 [] :=
  ⟨rfl, .inr ⟨w.heap.size, 0, #[], rfl, Nat.le_refl _, by rw [heap_alloc_eq, if_pos rfl], Nat.le_refl _, by unfold maxLen; omega, rfl, rfl⟩⟩
 have hla := ha.alloc (.cells #[] 4)
 clear ha
 go_wp2_with (first | (at_builtin; refine wpList_append_own _ rfl _ _ 231 rfl w.heap.size 4 i0 (.bool false) 1 1 Tryz.underlying231 hi hz0 hz1 hz2 rfl (by decide) _ _ _ rfl hown ⟨b, o, none⟩ xs.length cap (xs.map Value.bool) rfl ?c0 ?c1 ?c2 ?c3 ?c4 ?c5 ?_) | go_in)
 case c0 => simp
 case c1 =>
  intro j u hj
  have := hla.at hj
  simpa [Addr.add_lit] using this
 case c2 =>
  intro v hv
  obtain ⟨x, _, rfl⟩ := List.mem_map.1 hv
  rfl
 case c3 => unfold maxLen; omega
 case c4 => omega
 case c5 => simp
 intro v' w' hown' hgrow _
 have hb : Below w.heap.size w w' := ((Below.refl _ _).alloc (Nat.le_refl _) _).grown hgrow (by simp) fun g hg => (hown.lt g hg).1
 clear hgrow hown hla
 obtain ⟨p, q, hv, hpq⟩ := own_slice hown'
 subst hv
 obtain ⟨p', q', hv', hlp, _⟩ := own_lies hown'
 cases hv'
 go_wp2
 go_ret
 exact ⟨p, q, rfl, hlp, hb, hpq, fun c o e => by subst e; exact (hown'.lt c rfl).1⟩

theorem cloneD_any (b o cap k : Nat) (xs : List UInt8) (w : World) (hx : xs.length = k) (hn : k ≤ 16) (ha : Lies w (some ⟨b, o, none⟩) (bs xs)) :
  Calls Tryz.prog 128 #[.slice (some ⟨b, o, none⟩) k cap] w fun e w' => ∃ (p : Option Addr) (q : Nat), e = .returned (.slice p k q) ∧ Lies w' p (bs xs) ∧ Below w.heap.size w w' ∧ k ≤ q ∧ ∀ c o, p = some ⟨c, o, none⟩ → w.heap.size ≤ c := by
 subst hx
 obtain ⟨i0, hi, hz0, hz1, hz2⟩ := info_parts infoU8
 have hne : ∀ W : World, (binOp .eql 36 (.slice (some ⟨b, o, none⟩) xs.length cap) (.slice none 0 0)).run Tryz.prog W = .ok (.bool false) W := fun W => Lib.run_eql_slice_nil W 36 5 (some ⟨b, o, none⟩) xs.length cap 0 0 Tryz.underlying36
 go_enter Tryz.func128, Tryz.ntmps128
 have hown : (w.alloc (.cells #[] 5)).ownsRow w.heap.size 5 1 (.slice (some ⟨w.heap.size, 0, none⟩) 0 0) 0 [] :=
  ⟨rfl, .inr ⟨w.heap.size, 0, #[], rfl, Nat.le_refl _, by rw [heap_alloc_eq, if_pos rfl], Nat.le_refl _, by unfold maxLen; omega, rfl, rfl⟩⟩
 have hla := ha.alloc (.cells #[] 5)
 clear ha
 go_wp2_with (first | (at_builtin; refine wpList_append_own _ rfl _ _ 36 rfl w.heap.size 5 i0 (.int .u8 0) 1 1 Tryz.underlying36 hi hz0 hz1 hz2 rfl (by decide) _ _ _ rfl hown ⟨b, o, none⟩ xs.length cap (bs xs) rfl ?c0 ?c1 ?c2 ?c3 ?c4 ?c5 ?_) | go_in)
 case c0 => simp [bs]
 case c1 =>
  intro j u hj
  have := hla.at hj
  simpa [Addr.add_lit] using this
 case c2 =>
  intro v hv
  obtain ⟨x, _, rfl⟩ := List.mem_map.1 hv
  rfl
 case c3 => unfold maxLen; omega
 case c4 => omega
 case c5 => simp
 intro v' w' hown' hgrow _
 have hb : Below w.heap.size w w' := ((Below.refl _ _).alloc (Nat.le_refl _) _).grown hgrow (by simp) fun g hg => (hown.lt g hg).1
 clear hgrow hown hla
 obtain ⟨p, q, hv, hpq⟩ := own_slice hown'
 subst hv
 obtain ⟨p', q', hv', hlp, _⟩ := own_lies hown'
 cases hv'
 go_wp2
 go_ret
 exact ⟨p, q, rfl, hlp, hb, hpq, fun c o e => by subst e; exact (hown'.lt c rfl).1⟩

def NewRow (B : Nat) (w : World) (r : MRow) : Prop := RowIn w r ∧ (∀ b o, r.ha = some ⟨b, o, none⟩ → B ≤ b) ∧ (∀ b o, r.da = some ⟨b, o, none⟩ → B ≤ b) ∧ r.h.length ≤ r.hc

theorem NewRow.below {B : Nat} {w w' : World} {r : MRow} (h : NewRow B w r) (hb : Below w.heap.size w w') : NewRow B w' r := ⟨h.1.below hb, h.2⟩
theorem NewRow.mono {B B' : Nat} {w : World} {r : MRow} (h : NewRow B w r) (hB : B' ≤ B) : NewRow B' w r := ⟨h.1, fun b o e => Nat.le_trans hB (h.2.1 b o e), fun b o e => Nat.le_trans hB (h.2.2.1 b o e), h.2.2.2⟩

theorem alloc2 (w : World) (o0 o1 : Obj) : ((w.alloc o0).alloc o1).heap[w.heap.size]? = some o0 ∧ ((w.alloc o0).alloc o1).heap[w.heap.size + 1]? = some o1 := by
 simp only [heap_alloc_eq, size_alloc_eq]
 refine ⟨?_, ?_⟩
 ·rw [if_neg (by omega), if_pos (by first | omega | trivial)]
 ·rw [if_pos (by first | omega | trivial)]

theorem lies_off {w : World} {a : Option Addr} {xs : List Value} {g : Nat} (h : Lies w a xs) (hp : 0 < xs.length) (hg : w.heap.size ≤ g) : ∀ b o, a = some ⟨b, o, none⟩ → b ≠ g := by
 intro b o e
 subst e
 have := World.block_lt_of_cell? w _ (h.at (k := 0) (List.getElem?_eq_getElem hp))
 simp at this
 omega

set_option maxHeartbeats 1000000 in
theorem rowCopy_any (r : MRow) (n k : Nat) (w : World) (hr : RowIn w r) (hf : Fits n k r.says) (n1 : 1 ≤ n) (n2 : n ≤ 24) (k1 : 1 ≤ k) (k2 : k ≤ 16) :
  Calls Tryz.prog 207 #[.agg #[r.hv, r.dv]] w fun e w' => ∃ t : MRow, e = .returned (.agg #[t.hv, t.dv]) ∧ NewRow w.heap.size w' t ∧ t.says = r.says ∧ Below w.heap.size w w' := by
 obtain ⟨ha, hc, rh, da, dc, rd⟩ := r
 obtain ⟨h1, h2, _, _⟩ := hr
 obtain ⟨f1, f2⟩ := hf
 simp only [MRow.hv, MRow.dv, MRow.says] at *
 obtain ⟨hb0, ho0, rfl⟩ := h1.some (k := 0) (by simp; omega)
 obtain ⟨db0, do0, rfl⟩ := h2.some (k := 0) (by simp [bs]; omega)
 rw [f1, f2]
 have HF1 := Shut.mk f1
 have HF2 := Shut.mk f2
 obtain ⟨blk0, blk1⟩ := alloc2 w (.cells #[.slice (some ⟨hb0, ho0, none⟩) n hc, .slice (some ⟨db0, do0, none⟩) k dc] 237) (.cells #[.slice none 0 0, .slice none 0 0] 237)
 have hB : Below w.heap.size w ((w.alloc (.cells #[.slice (some ⟨hb0, ho0, none⟩) n hc, .slice (some ⟨db0, do0, none⟩) k dc] 237)).alloc (.cells #[.slice none 0 0, .slice none 0 0] 237)) := ((Below.refl _ _).alloc (Nat.le_refl _) _).alloc (by simp) _
 clear f1 f2
 go_enter Tryz.func207, Tryz.ntmps207
 go_upto_region 1 with fail
 obtain ⟨W0, hW0⟩ : ∃ W0, (w.alloc (.cells #[.slice (some ⟨hb0, ho0, none⟩) n hc, .slice (some ⟨db0, do0, none⟩) k dc] 237)).alloc (.cells #[.slice none 0 0, .slice none 0 0] 237) = W0 := ⟨_, rfl⟩
 have hsz : W0.heap.size = w.heap.size + 2 := by rw [← hW0]; simp
 rw [hW0] at blk0 blk1 hB ⊢
 clear hW0
 have x0 : W0.cell? ⟨w.heap.size, 0, none⟩ = some (.slice (some ⟨hb0, ho0, none⟩) n hc) := by simp [World.cell?, blk0]
 have x1 : W0.cell? ⟨w.heap.size, 1, none⟩ = some (.slice (some ⟨db0, do0, none⟩) k dc) := by simp [World.cell?, blk0]
 have y0 : W0.cell? ⟨w.heap.size + 1, 0, none⟩ = some (.slice none 0 0) := by simp [World.cell?, blk1]
 have y1 : W0.cell? ⟨w.heap.size + 1, 1, none⟩ = some (.slice none 0 0) := by simp [World.cell?, blk1]
 have yf : ∀ j, W0.frozen? ⟨w.heap.size + 1, j, none⟩ = false := fun j => by simp [World.frozen?, blk1]
 replace x0 : W0.drew.cell? _ = _ := x0
 replace x1 : W0.drew.cell? _ = _ := x1
 replace y0 : W0.drew.cell? _ = _ := y0
 replace y1 : W0.drew.cell? _ = _ := y1
 replace yf : ∀ j, W0.drew.frozen? _ = _ := yf
 have hB1 : Below w.heap.size w W0.drew := hB.drew
 have hsz1 : W0.drew.heap.size = w.heap.size + 2 := hsz
 have l1 := h1.below hB1 (Nat.le_refl _)
 have l2 := h2.below hB1 (Nat.le_refl _)
 have HY := Shut.mk (And.intro y0 (And.intro y1 yf))
 have HX := Shut.mk (And.intro x0 x1)
 have HZ := Shut.mk hsz1
 clear blk0 blk1 hB hsz y0 y1 yf h1 h2 hsz1
 go_region_held3 (fun w' => w'.cell? ⟨w.heap.size, 0, none⟩ = some (.slice (some ⟨hb0, ho0, none⟩) n hc) ∧ w'.cell? ⟨w.heap.size, 1, none⟩ = some (.slice (some ⟨db0, do0, none⟩) k dc)) (refine ⟨?_, ?_⟩ <;> first | assumption | (rw [World.cell?_setCell_other _ _ _ _ (by intro e; injection e; omega), World.cell?_setCell_other _ _ _ _ (by intro e; injection e; omega)]; assumption)) (first | (go_at_call 226; refine (cloneH_any hb0 ho0 hc n rh _ HF1.out n2 l1).mono ?_; rintro e w4 ⟨p4, q4, rfl, l4, hb4, hq4, hn4⟩; have v0 := cellC (w := W0.drew) HX.out.1 hb4; have v1 := cellC (w := W0.drew) HX.out.2 hb4) | (go_at_call 128; refine (cloneD_any db0 do0 dc k rd _ HF2.out k2 (l2.below hb4 (Nat.le_refl _))).mono ?_; rintro e w5 ⟨p5, q5, rfl, l5, hb5, hq5, hn5⟩; have v2 := cellC v0 hb5; have v3 := cellC v1 hb5; have b5 := hb4.trans (hb5.mono hb4.size); have s0 := cellC (w := W0.drew) HY.out.1 b5; have s1 := cellC (w := W0.drew) HY.out.2.1 b5; have s2 := ((bcell b5).2 (w.heap.size + 1) 0 (by rw [HZ.out]; omega)).trans (HY.out.2.2 0); have s3 := ((bcell b5).2 (w.heap.size + 1) 1 (by rw [HZ.out]; omega)).trans (HY.out.2.2 1)))
 all_goals
  have hz := hb4.size
  rw [HZ.out] at hz hn4
  have l6 := l4.below hb5 (Nat.le_refl _)
  obtain ⟨z0, z1⟩ := set2' s0 s1 (.slice p4 n q4) (.slice p5 k q5)
  have gr := grown_trans (grown_setCell w5 (w.heap.size + 1) 0 (.slice p4 n q4)) (grown_setCell _ (w.heap.size + 1) 1 (.slice p5 k q5))
  have l7 := lies_grown gr l6 fun b o e => by have := hn4 b o e; omega
  have l8 := lies_grown gr l5 fun b o e => by have := hn5 b o e; omega
  have hbF := ((hB1.trans (b5.mono (by rw [HZ.out]; omega))).setCell (p := ⟨w.heap.size + 1, 0, none⟩) (by simp) (.slice p4 n q4)).setCell (p := ⟨w.heap.size + 1, 1, none⟩) (by simp) (.slice p5 k q5)
  clear gr l6 l4 l5 hb4 hb5 b5 v0 v1 v2 v3 s0 s1 s2 s3
  generalize (w5.setCell ⟨w.heap.size + 1, 0, none⟩ (.slice p4 n q4)).setCell ⟨w.heap.size + 1, 1, none⟩ (.slice p5 k q5) = w9 at *
  go_wp2
  refine bodyPost_ret (v := .agg #[.slice p4 n q4, .slice p5 k q5]) (by simp [results, Tryz.results207, go_sem, z0, z1]) rfl ?_
  refine ⟨⟨p4, q4, rh, p5, q5, rd⟩, by simp only [HF1.out, HF2.out], ⟨⟨l7, l8, by simp only [HF1.out]; unfold maxLen; omega, by simp only [HF2.out]; unfold maxLen; omega⟩, fun b o e => by have := hn4 b o e; omega, fun b o e => by have := hn5 b o e; omega, by simp only [HF1.out]; exact hq4⟩, rfl, hbF⟩

theorem add_pair (w : World) (p : Option Addr) (cp : Nat) (a : Option Addr) (ca : Nat) (b : Option Addr) (cb : Nat) (x y : List UInt8) (k : Nat) (k1 : 1 ≤ k) (hk : k ≤ 16) (hx : x.length = k) (hy : y.length = k) (hp : Lies w p [.slice a k ca, .slice b k cb]) (ha : Lies w a (bs x)) (hb : Lies w b (bs y)) :
  Calls Tryz.prog 208 #[.slice p 2 cp] w fun e w' => ∃ (p' : Option Addr) (q : Nat), e = .returned (.tuple #[.slice p' k q, .int .i64 0]) ∧ Lies w' p' (bs (xorl x y)) ∧ Below w.heap.size w w' ∧ ∀ c o, p' = some ⟨c, o, none⟩ → w.heap.size ≤ c := by
 have hl : Lies w p ([⟨a, ca, x⟩, ⟨b, cb, y⟩].map Blk.val) := by
  have e : ([⟨a, ca, x⟩, ⟨b, cb, y⟩].map Blk.val) = [.slice a k ca, .slice b k cb] := by simp [Blk.val, hx, hy]
  rw [e]
  exact hp
 have hall : AllIn w [⟨a, ca, x⟩, ⟨b, cb, y⟩] := by
  intro z hz
  simp at hz
  rcases hz with rfl | rfl
  ·exact ⟨ha, by unfold maxLen; simp [hx]; omega⟩
  ·exact ⟨hb, by unfold maxLen; simp [hy]; omega⟩
 have hc : addCode [⟨a, ca, x⟩, ⟨b, cb, y⟩] = 0 := by
  simp [addCode, lens, chk, chkFrom, hx, hy]
  omega
 have hs : sumBl [⟨a, ca, x⟩, ⟨b, cb, y⟩] = xorl x y := by
  simp only [sumBl, sumOf, List.map_cons, List.map_nil, List.headD_cons, sumTo]
  congr 1
  apply List.ext_getElem
  ·rw [xorl_length _ _ (by simp [zeros])]; simp [zeros]
  ·intro t h1 h2
   simp [xorl, zeros]
 have hsl : (xorl x y).length = k := by rw [xorl_length _ _ (by rw [hx, hy]), hx]
 have h := add_good p cp [⟨a, ca, x⟩, ⟨b, cb, y⟩] w (by unfold maxLen; simp) hl hall hc
 rw [hs, hsl] at h
 refine h.mono ?_
 rintro e w' ⟨rfl, hrow, hb'⟩
 exact ⟨_, _, rfl, row_lies hrow hsl, hb', fun b o e => by cases e; exact Nat.le_refl _⟩

theorem alloc3' (w : World) (o0 o1 o2 : Obj) : (((w.alloc o0).alloc o1).alloc o2).heap[w.heap.size]? = some o0 ∧ (((w.alloc o0).alloc o1).alloc o2).heap[w.heap.size + 1]? = some o1 ∧ (((w.alloc o0).alloc o1).alloc o2).heap[w.heap.size + 2]? = some o2 := by
 simp only [heap_alloc_eq, size_alloc_eq]
 refine ⟨?_, ?_, ?_⟩
 ·rw [if_neg (by omega), if_neg (by omega), if_pos (by first | omega | trivial)]
 ·rw [if_neg (by omega), if_pos (by first | omega | trivial)]
 ·rw [if_pos (by first | omega | trivial)]

def hasAt (x y : List Bool) (q : Nat) (j : Nat) : Value := .bool (if j < q then (xorH x y).getD j false else false)

theorem hasAt_next {x y : List Bool} {q : Nat} (hq : q < x.length) (hy : y.length = x.length) (j : Nat) : hasAt x y (q + 1) j = if j = q then .bool (x[q] != y[q]'(by omega)) else hasAt x y q j := by
 by_cases e : j = q
 ·subst e
  rw [if_pos rfl, hasAt, if_pos (by omega)]
  congr 1
  rw [List.getD_eq_getElem?_getD, List.getElem?_eq_getElem (by rw [xorH_length hy]; exact hq)]
  simp [xorH]
 ·rw [if_neg e]
  unfold hasAt
  by_cases h : j < q
  ·rw [if_pos h, if_pos (by omega)]
  ·rw [if_neg h, if_neg (by omega)]

def PlusInv (W0 wr : World) (g n : Nat) (x y : List Bool) (q : Nat) : Prop := Below W0.heap.size W0 wr ∧ g = W0.heap.size ∧ g < wr.heap.size ∧ wr.rowIs g 4 n (hasAt x y q)

theorem PlusInv.next {W0 wr : World} {g n q : Nat} {x y : List Bool} (h : PlusInv W0 wr g n x y q) (hq : q < x.length) (hy : y.length = x.length) : PlusInv W0 (wr.setCell ⟨g, q, none⟩ (.bool (x[q] != y[q]'(by omega)))).drew g n x y (q + 1) := by
 obtain ⟨h1, h2, h3, h4⟩ := h
 refine ⟨(h1.setCell (p := ⟨g, q, none⟩) (by simp; omega) _).drew, h2, by simpa using h3, World.rowIs.drew ?_⟩
 refine (h4.set q _).congr fun j hj => ?_
 rw [hasAt_next hq hy]

set_option maxHeartbeats 2000000 in
theorem plus_any (r s : MRow) (n k : Nat) (w : World) (hr : RowIn w r) (hs : RowIn w s) (hf : Fits n k r.says) (hg : Fits n k s.says) (n1 : 1 ≤ n) (n2 : n ≤ 24) (k1 : 1 ≤ k) (k2 : k ≤ 16) :
  Calls Tryz.prog 189 #[.agg #[r.hv, r.dv], .agg #[s.hv, s.dv]] w fun e w' => ∃ t : MRow, e = .returned (.agg #[t.hv, t.dv]) ∧ NewRow w.heap.size w' t ∧ t.says = LRow.add r.says s.says ∧ Below w.heap.size w w' := by
 obtain ⟨ha, hc, rh, da, dc, rd⟩ := r
 obtain ⟨ha', hc', sh, da', dc', sd⟩ := s
 obtain ⟨f1, f2⟩ := hf
 obtain ⟨f3, f4⟩ := hg
 simp only [MRow.hv, MRow.dv, MRow.says] at *
 rw [f1, f2, f3, f4]
 obtain ⟨blk0, blk1, blk2⟩ := alloc3' w (.cells #[.slice ha n hc, .slice da k dc] 237) (.cells #[.slice ha' n hc', .slice da' k dc'] 237) (.cells #[.slice none 0 0, .slice none 0 0] 237)
 obtain ⟨W0, hW0⟩ : ∃ W0, ((w.alloc (.cells #[.slice ha n hc, .slice da k dc] 237)).alloc (.cells #[.slice ha' n hc', .slice da' k dc'] 237)).alloc (.cells #[.slice none 0 0, .slice none 0 0] 237) = W0 := ⟨_, rfl⟩
 have hB : Below w.heap.size w W0 := by
  rw [← hW0]
  exact (((Below.refl _ _).alloc (Nat.le_refl _) _).alloc (by simp) _).alloc (by simp; omega) _
 have hsz : W0.heap.size = w.heap.size + 3 := by rw [← hW0]; simp
 rw [hW0] at blk0 blk1 blk2
 have a0 : W0.cell? ⟨w.heap.size, 0, none⟩ = some (.slice ha n hc) := by simp [World.cell?, blk0]
 have a1 : W0.cell? ⟨w.heap.size, 1, none⟩ = some (.slice da k dc) := by simp [World.cell?, blk0]
 have b0 : W0.cell? ⟨w.heap.size + 1, 0, none⟩ = some (.slice ha' n hc') := by simp [World.cell?, blk1]
 have b1 : W0.cell? ⟨w.heap.size + 1, 1, none⟩ = some (.slice da' k dc') := by simp [World.cell?, blk1]
 have r0 : W0.cell? ⟨w.heap.size + 2, 0, none⟩ = some (.slice none 0 0) := by simp [World.cell?, blk2]
 have r1 : W0.cell? ⟨w.heap.size + 2, 1, none⟩ = some (.slice none 0 0) := by simp [World.cell?, blk2]
 have rf : ∀ j, W0.frozen? ⟨w.heap.size + 2, j, none⟩ = false := fun j => by simp [World.frozen?, blk2]
 have hla := hr.1.below hB (Nat.le_refl _)
 have hlb := hs.1.below hB (Nat.le_refl _)
 have hda := hr.2.1.below hB (Nat.le_refl _)
 have hdb := hs.2.1.below hB (Nat.le_refl _)
 simp only at hla hlb hda hdb
 have hmk := run_make_row' (P := Tryz.prog) 231 4 (.bool false) 1 Tryz.underlying231 infoBool rfl .i64 .i64 n (by omega) (by omega)
 have H0 : Shut (PlusInv W0 (W0.alloc (.cells (madeCells #[Value.bool false] n) 4)) W0.heap.size n rh sh 0) := ⟨(Below.refl _ _).alloc (Nat.le_refl _) _, rfl, by simp, (World.rowIs_made W0 _ n _).congr fun j hj => by simp [hasAt]⟩
 have HF1 := Shut.mk f1
 have HF2 := Shut.mk f2
 have HF3 := Shut.mk f3
 have HF4 := Shut.mk f4
 have HSZ := Shut.mk hsz
 have HW := Shut.mk hW0
 have HX := Shut.mk (And.intro a0 (And.intro a1 (And.intro b0 (And.intro b1 (And.intro r0 (And.intro r1 rf))))))
 rw [← hW0] at a0
 clear blk0 blk1 blk2 a1 b0 b1 r0 r1 rf f1 f2 f3 f4 hsz hW0 hr hs
 go_enter Tryz.func189, Tryz.ntmps189
 go_wp2
 rw [HW.out]
 clear a0 hmk
 obtain ⟨g3, e3⟩ : ∃ g3, W0.heap.size = g3 := ⟨_, rfl⟩
 rw [HSZ.out] at e3
 have HG3 := Shut.mk e3
 rw [HSZ.out] at H0
 simp only [e3] at H0
 simp only [e3]
 clear e3
 generalize W0.alloc (.cells (madeCells #[Value.bool false] n) 4) = W1 at *
 go_loopw [15] (fun m wr => ∃ q : Nat, q ≤ n ∧ m = .int .i64 q ∧ Shut (PlusInv W0 wr g3 n rh sh q)) (fun m _ => n - (intOf m).toNat)
 case atStart => exact ⟨0, Nat.zero_le _, rfl, H0⟩
 case round =>
  clear H0
  obtain ⟨q, hq, rfl, HI⟩ := hrel
  obtain ⟨i1, i2, i3, i4⟩ := HI.out
  by_cases hlt : q < n
  ·have hq1 : q < rh.length := by rw [HF1.out]; exact hlt
   have hq2 : q < sh.length := by rw [HF3.out]; exact hlt
   obtain ⟨ab, ao, rfl⟩ := hla.some (k := q) (by simpa using hq1)
   obtain ⟨bb, bo, rfl⟩ := hlb.some (k := q) (by simpa using hq2)
   have c1 : wr.cell? ⟨ab, ao + q, none⟩ = some (.bool rh[q]) := (hla.below i1 (Nat.le_refl _)).at (by simp [hq1])
   have c2 : wr.cell? ⟨bb, bo + q, none⟩ = some (.bool sh[q]) := (hlb.below i1 (Nat.le_refl _)).at (by simp [hq2])
   have c3 := cellC HX.out.1 i1
   have c4 := cellC HX.out.2.2.1 i1
   have c5 := i4.cell hlt
   have c6 := i4.frozen q
   have d1 : ¬ g3 = ab := by have := World.block_lt_of_cell? W0 _ (hla.at (k := q) (u := .bool rh[q]) (by simp [hq1])); simp at this; omega
   have d2 : ¬ g3 = bb := by have := World.block_lt_of_cell? W0 _ (hlb.at (k := q) (u := .bool sh[q]) (by simp [hq2])); simp at this; omega
   have d3 : ¬ g3 = w.heap.size := by have := HG3.out; omega
   have d4 : ¬ g3 = w.heap.size + 1 := by have := HG3.out; omega
   have R1 := Shut.mk (HI.out.next hq1 (by rw [HF1.out, HF3.out]))
   generalize rh[q]'hq1 = X at *
   generalize sh[q]'hq2 = Y at *
   clear i1 i2 i3 i4 hla hlb HI hq1 hq2
   go_wp2
   go_region
   all_goals
    clear c1 c2 c3 c4 c5 c6
    go_wp2
    go_roundw
    case rel => exact ⟨q + 1, by omega, by go_num, R1⟩
    case measure => simp [intOf]; omega
  ·obtain rfl : q = n := by omega
   have hxl : (xorH rh sh).length = q := by rw [xorH_length (by rw [HF1.out, HF3.out]), HF1.out]
   have hlv : Lies wr (some ⟨g3, 0, none⟩) ((xorH rh sh).map Value.bool) := row_lies' i4 _ (by simp [hxl]) fun i hi => by
    have hi' : i < q := by simpa [hxl] using hi
    unfold hasAt
    rw [if_pos hi', List.getElem_map, List.getD_eq_getElem?_getD, List.getElem?_eq_getElem (by omega)]
    rfl
   have HXL := Shut.mk hxl
   have x1 := cellC HX.out.2.1 i1
   have x2 := cellC HX.out.2.2.2.1 i1
   have x3 := cellC HX.out.2.2.2.2.1 i1
   have x4 := cellC HX.out.2.2.2.2.2.1 i1
   have xf : ∀ j, wr.frozen? ⟨w.heap.size + 2, j, none⟩ = false := fun j => by rw [(bcell i1).2 (w.heap.size + 2) j (by rw [HSZ.out]; omega)]; exact HX.out.2.2.2.2.2.2 j
   have bw : Below w.heap.size w wr := hB.trans (i1.mono hB.size)
   have hlp : Lies (wr.alloc (.cells #[.slice da k dc, .slice da' k dc'] 36)) (some ⟨wr.heap.size, 0, none⟩) [.slice da k dc, .slice da' k dc'] := Lies.alloc_new wr #[.slice da k dc, .slice da' k dc'] 36
   have hS := add_pair _ _ 2 da dc da' dc' rd sd k k1 k2 HF2.out HF4.out hlp ((hda.below i1 (Nat.le_refl _)).alloc _) ((hdb.below i1 (Nat.le_refl _)).alloc _)
   have bd : Below wr.heap.size wr (wr.alloc (.cells #[.slice da k dc, .slice da' k dc'] 36)) := (Below.refl _ _).alloc (Nat.le_refl _) _
   have i3' := i3
   have hg3 : w.heap.size + 2 < wr.heap.size := by have := HG3.out; omega
   clear i1 i2 i4 hla hlb hda hdb hlp hxl HI
   go_wp2_with fail
   refine hS.mono ?_
   rintro e w4 ⟨p4, q4, rfl, hl4, hb4, hn4⟩
   have b4 := bd.trans (hb4.mono bd.size)
   have z0 := cellC x3 b4
   have z1 := cellC x4 b4
   have zf0 := ((bcell b4).2 (w.heap.size + 2) 0 hg3).trans (xf 0)
   have zf1 := ((bcell b4).2 (w.heap.size + 2) 1 hg3).trans (xf 1)
   have bw4 := bw.trans (b4.mono bw.size)
   have hlv4 := hlv.below b4 (Nat.le_refl _)
   have hs4 := b4.size
   have hs5 := bd.size
   clear hS bd hb4 x1 x2 x3 x4 xf hlv b4
   go_wp2
   obtain ⟨u0, u1⟩ := set2' z0 z1 (.slice (some ⟨g3, 0, none⟩) q q) (.slice p4 k q4)
   have gr := grown_trans (grown_setCell w4 (w.heap.size + 2) 0 (.slice (some ⟨g3, 0, none⟩) q q)) (grown_setCell _ (w.heap.size + 2) 1 (.slice p4 k q4))
   have L1 := lies_grown gr hlv4 fun b o e => by cases e; have := HG3.out; omega
   have L2 := lies_grown gr hl4 fun b o e => by have := hn4 b o e; omega
   have hbF := (bw4.setCell (p := ⟨w.heap.size + 2, 0, none⟩) (by simp) (.slice (some ⟨g3, 0, none⟩) q q)).setCell (p := ⟨w.heap.size + 2, 1, none⟩) (by simp) (.slice p4 k q4)
   generalize (w4.setCell ⟨w.heap.size + 2, 0, none⟩ (.slice (some ⟨g3, 0, none⟩) q q)).setCell ⟨w.heap.size + 2, 1, none⟩ (.slice p4 k q4) = w9 at *
   refine bodyPost_ret (v := .agg #[.slice (some ⟨g3, 0, none⟩) q q, .slice p4 k q4]) (by simp [results, Tryz.results189, go_sem, u0, u1]) rfl ?_
   have l2 : (xorl rd sd).length = k := by rw [xorl_length _ _ (by rw [HF2.out, HF4.out]), HF2.out]
   refine ⟨⟨some ⟨g3, 0, none⟩, q, xorH rh sh, p4, q4, xorl rd sd⟩, ?_, ⟨⟨L1, L2, ?_, ?_⟩, ?_, ?_, ?_⟩, rfl, hbF⟩
   ·simp only [HXL.out, l2]
   ·simp only [HXL.out]; unfold maxLen; omega
   ·simp only [l2]; unfold maxLen; omega
   ·intro b o e; cases e; have := HG3.out; omega
   ·intro b o e; have := hn4 b o e; omega
   ·simp only [HXL.out]; exact Nat.le_refl _

theorem infoRow' : (Tryz.prog.info? 237).map (fun i => (i.zero, i.size, i.bytes)) = some (some (.agg #[.slice none 0 0, .slice none 0 0]), 2, 48) := by kernel_rfl

theorem run_make_rows (m : Nat) (hm : m ≤ 24) (W : World) :
  (Instr.makeSlice 201 (.int .i64 (m : Int)) (.int .i64 (m : Int))).run Tryz.prog W = .ok (.slice (some ⟨W.heap.size, 0, none⟩) m m) (W.alloc (.cells (madeCells #[Value.slice none 0 0, Value.slice none 0 0] (m * 2)) 237)) := by
 obtain ⟨i0, hi, hz0, hz1, hz2⟩ := info_parts infoRow'
 have h := run_make (P := Tryz.prog) W 201 237 i0 (.agg #[.slice none 0 0, .slice none 0 0]) Tryz.underlying201 hi hz0 .i64 .i64 m m (by omega) (Int.le_refl _) (by rw [hz2]; omega) (by omega)
 simp only [Int.toNat_natCast, hz1] at h
 exact h

def nilRow : MRow := ⟨none, 0, [], none, 0, []⟩

theorem rows_made (W : World) (m : Nat) (t : TypeId) : RowsAt (W.alloc (.cells (madeCells #[Value.slice none 0 0, Value.slice none 0 0] (m * 2)) t)) W.heap.size (List.replicate m nilRow) := by
 have e : (W.alloc (.cells (madeCells #[Value.slice none 0 0, Value.slice none 0 0] (m * 2)) t)).heap[W.heap.size]? = some (.cells (madeCells #[Value.slice none 0 0, Value.slice none 0 0] (m * 2)) t (0, 0)) := by rw [heap_alloc_eq, if_pos rfl]
 refine RowsAt.of ?_ (fun j => by simp only [World.frozen?, e]; simp)
 intro j hj
 have hj' : j < m := by simpa using hj
 rw [List.getElem_replicate]
 have h0 : j * 2 % 2 = 0 := by omega
 have h1 : (j * 2 + 1) % 2 = 1 := by omega
 refine ⟨?_, ?_⟩
 ·simp only [World.cell?, e]
  simp [madeCells, h0, show j * 2 < m * 2 by omega, nilRow, MRow.hv]
 ·simp only [World.cell?, e]
  simp [madeCells, h1, show j * 2 + 1 < m * 2 by omega, nilRow, MRow.dv]

def Own3 (w : World) (g n k : Nat) (x : MRow) : Prop := Good3 w g n k x ∧ x.h.length ≤ x.hc

theorem Own3.below {w w' : World} {g n k : Nat} {x : MRow} (h : Own3 w g n k x) (hb : Below w.heap.size w w') : Own3 w' g n k x := ⟨h.1.below hb, h.2⟩
theorem Own3.set {w : World} {g n k o : Nat} {x : MRow} {v : Value} (h : Own3 w g n k x) : Own3 (w.setCell ⟨g, o, none⟩ v) g n k x := ⟨h.1.set, h.2⟩

theorem NewRow.own {B : Nat} {w : World} {x : MRow} {g n k : Nat} (h : NewRow B w x) (hf : Fits n k x.says) (hg : g < B) : Own3 w g n k x :=
 ⟨⟨h.1, hf, fun b o e => by have := h.2.1 b o e; omega, fun b o e => by have := h.2.2.1 b o e; omega⟩, h.2.2.2⟩

def CopyAt (W0 w : World) (g n k : Nat) (R : List MRow) : Prop := Below W0.heap.size W0 w ∧ W0.heap.size ≤ g ∧ g < w.heap.size ∧ RowsAt w g R ∧ ∀ x ∈ R, Own3 w g n k x

theorem CopyAt.below {W0 w w' : World} {g n k : Nat} {R : List MRow} (h : CopyAt W0 w g n k R) (hb : Below w.heap.size w w') : CopyAt W0 w' g n k R :=
 ⟨h.1.trans (hb.mono h.1.size), h.2.1, by have := hb.size; have := h.2.2.1; omega, h.2.2.2.1.below hb h.2.2.1, fun x hx => (h.2.2.2.2 x hx).below hb⟩

theorem set_app (C : List MRow) (d : Nat) (z r : MRow) : (C ++ List.replicate (d + 1) z).set C.length r = (C ++ [r]) ++ List.replicate d z := by
 rw [List.set_append_right _ _ (Nat.le_refl _), Nat.sub_self, List.replicate_succ, List.set_cons_zero]
 simp

def MidAt (W0 w : World) (g n k m q : Nat) (A : List LRow) : Prop :=
 Below W0.heap.size W0 w ∧ W0.heap.size ≤ g ∧ g < w.heap.size ∧ ∃ C : List MRow, C.length = q ∧ RowsAt w g (C ++ List.replicate (m - q) nilRow) ∧ (∀ x ∈ C, Own3 w g n k x) ∧ C.map MRow.says = A.take q

theorem MidAt.below {W0 w w' : World} {g n k m q : Nat} {A : List LRow} (h : MidAt W0 w g n k m q A) (hb : Below w.heap.size w w') : MidAt W0 w' g n k m q A := by
 obtain ⟨h1, h2, h3, C, h4, h5, h6, h7⟩ := h
 exact ⟨h1.trans (hb.mono h1.size), h2, by have := hb.size; omega, C, h4, h5.below hb h3, fun x hx => (h6 x hx).below hb, h7⟩

theorem MidAt.put {W0 w : World} {g n k m q : Nat} {A : List LRow} {r : MRow} (h : MidAt W0 w g n k m q A) (hq : q < m) (hr : Own3 w g n k r) (hs : A.take (q + 1) = A.take q ++ [r.says]) : MidAt W0 ((w.setCell ⟨g, q * 2, none⟩ r.hv).setCell ⟨g, q * 2 + 1, none⟩ r.dv) g n k m (q + 1) A := by
 obtain ⟨h1, h2, h3, C, h4, h5, h6, h7⟩ := h
 refine ⟨(h1.setCell (p := ⟨g, q * 2, none⟩) (by simpa using h2) _).setCell (p := ⟨g, q * 2 + 1, none⟩) (by simpa using h2) _, h2, by simpa using h3, C ++ [r], by simp [h4], ?_, ?_, ?_⟩
 ·have h8 := h5.set (i := q) (by simp [h4]; omega) r
  rw [← h4, show m - C.length = (m - (C.length + 1)) + 1 by omega, set_app] at h8
  rw [← h4]
  exact h8
 ·intro x hx
  rcases List.mem_append.1 hx with hx | hx
  ·exact ((h6 x hx).set).set
  ·simp at hx; rw [hx]; exact hr.set.set
 ·rw [hs, List.map_append, h7]; rfl

theorem MidAt.cells {W0 w : World} {g n k m q : Nat} {A : List LRow} (h : MidAt W0 w g n k m q A) (hq : q < m) : w.cell? ⟨g, q * 2, none⟩ = some (.slice none 0 0) ∧ w.cell? ⟨g, q * 2 + 1, none⟩ = some (.slice none 0 0) ∧ ∀ j, w.frozen? ⟨g, j, none⟩ = false := by
 obtain ⟨h1, h2, h3, C, h4, h5, h6, h7⟩ := h
 obtain ⟨c0, c1⟩ := h5.cells (j := q) (by simp [h4]; omega)
 have e : (C ++ List.replicate (m - q) nilRow)[q]'(by simp [h4]; omega) = nilRow := by
  rw [List.getElem_append_right (by omega)]
  exact List.getElem_replicate _
 rw [e] at c0 c1
 exact ⟨c0, c1, h5.2⟩

theorem MidAt.done {W0 w : World} {g n k m : Nat} {A : List LRow} (h : MidAt W0 w g n k m m A) (hA : A.length = m) : ∃ R : List MRow, R.length = m ∧ CopyAt W0 w g n k R ∧ R.map MRow.says = A := by
 obtain ⟨h1, h2, h3, C, h4, h5, h6, h7⟩ := h
 rw [List.take_of_length_le (by omega)] at h7
 refine ⟨C, h4, ⟨h1, h2, h3, ?_, h6⟩, h7⟩
 simpa using h5

def boxy : Value → Bool
 | .bool _ => false
 | .int .u8 _ => false
 | _ => true

theorem RowIn.off {w : World} {x : MRow} {b : Nat} {c : Array Value} {t : TypeId} {f : Nat × Nat} (h : RowIn w x) (n1 : 0 < x.h.length) (k1 : 0 < x.d.length) (hb : w.heap[b]? = some (.cells c t f)) (hc : ∀ v ∈ c.toList, boxy v = true) :
  (∀ b' o, x.ha = some ⟨b', o, none⟩ → b' ≠ b) ∧ ∀ b' o, x.da = some ⟨b', o, none⟩ → b' ≠ b := by
 have key : ∀ (a : Option Addr) (xs : List Value) (u : Value), Lies w a xs → xs[0]? = some u → boxy u = false → ∀ b' o, a = some ⟨b', o, none⟩ → b' ≠ b := by
  intro a xs u hl hu hbx b' o e e2
  subst e e2
  have := hl.at hu
  simp only [World.cell?, hb] at this
  have hm : u ∈ c.toList := by
   have := Array.mem_of_getElem? this
   simpa using this
  rw [hc u hm] at hbx
  cases hbx
 exact ⟨key _ _ (.bool x.h[0]) h.1 (by simp [n1]) rfl, key _ _ (.int .u8 (x.d[0].toNat : Int)) h.2.1 (by simp [bs, k1]) rfl⟩

theorem RowIn.far {w w' : World} {x : MRow} {b : Nat} {c : Array Value} {t : TypeId} {f : Nat × Nat} (h : RowIn w x) (n1 : 0 < x.h.length) (k1 : 0 < x.d.length) (hb : w.heap[b]? = some (.cells c t f)) (hc : ∀ v ∈ c.toList, boxy v = true) (gr : w.grownBy w' (some b)) : RowIn w' x := by
 obtain ⟨o1, o2⟩ := h.off n1 k1 hb hc
 exact ⟨lies_grown gr h.1 o1, lies_grown gr h.2.1 o2, h.2.2⟩

theorem CopyAt.far {W0 w w' : World} {g n k b : Nat} {R : List MRow} {c : Array Value} {t : TypeId} {f : Nat × Nat} (h : CopyAt W0 w g n k R) (n1 : 1 ≤ n) (k1 : 1 ≤ k) (hb : w.heap[b]? = some (.cells c t f)) (hc : ∀ v ∈ c.toList, boxy v = true) (hne : b ≠ g) (gr : w.grownBy w' (some b)) (hB : Below W0.heap.size W0 w') : CopyAt W0 w' g n k R := by
 obtain ⟨h1, h2, h3, h4, h5⟩ := h
 refine ⟨hB, h2, by have := gr.size; omega, ⟨lies_grown gr h4.1 fun c o e => by cases e; omega, fun j => (gr.frozen_far ⟨g, j, none⟩ h3 (by simp; omega)).trans (h4.2 j)⟩, fun x hx => ?_⟩
 obtain ⟨⟨g1, g2, g4, g5⟩, g3⟩ := h5 x hx
 exact ⟨⟨g1.far (by have := g2.1; simp only [MRow.says] at this; omega) (by have := g2.2; simp only [MRow.says] at this; omega) hb hc gr, g2, g4, g5⟩, g3⟩

theorem CopyAt.from {W W0 w : World} {g n k : Nat} {R : List MRow} (h : CopyAt W0 w g n k R) (hb : Below W.heap.size W W0) : CopyAt W w g n k R :=
 ⟨hb.trans (h.1.mono hb.size), Nat.le_trans hb.size h.2.1, h.2.2⟩

theorem boxy3 (x y : Int) (a : Option Addr) (m c : Nat) : ∀ v ∈ (#[Value.int .i64 x, .int .i64 y, .slice a m c] : Array Value).toList, boxy v = true := by
 intro v hv
 simp at hv
 rcases hv with rfl | rfl | rfl <;> rfl

theorem boxy2 (a b : Option Addr) (m c m' c' : Nat) : ∀ v ∈ (#[Value.slice a m c, .slice b m' c'] : Array Value).toList, boxy v = true := by
 intro v hv
 simp at hv
 rcases hv with rfl | rfl <;> rfl

theorem block_set {w : World} {b b' o : Nat} {x : Obj} {v : Value} (h : w.heap[b]? = some x) (hne : b ≠ b') : (w.setCell ⟨b', o, none⟩ v).heap[b]? = some x := by
 rw [Below.heap_setCell _ _ _ _ (by simpa using hne)]
 exact h

set_option maxHeartbeats 1000000 in
theorem systemCopy_any (n k : Nat) (ra : Option Addr) (rc : Nat) (rows : List MRow) (w : World) (hl : Lies w ra (rowCells rows)) (hall : ∀ x ∈ rows, RowIn w x) (hf : ∀ x ∈ rows, Fits n k x.says) (n1 : 1 ≤ n) (n2 : n ≤ 24) (k1 : 1 ≤ k) (k2 : k ≤ 16) (hm : rows.length ≤ 24) :
  Calls Tryz.prog 188 #[.agg #[.int .i64 n, .int .i64 k, .slice ra rows.length rc]] w fun e w' => ∃ (g : Nat) (R : List MRow), e = .returned (.agg #[.int .i64 n, .int .i64 k, .slice (some ⟨g, 0, none⟩) rows.length rows.length]) ∧ CopyAt w w' g n k R ∧ R.map MRow.says = rows.map MRow.says := by
 obtain ⟨blk0, blk1⟩ := alloc2 w (.cells #[.int .i64 n, .int .i64 k, .slice ra rows.length rc] 203) (.cells #[.int .i64 0, .int .i64 0, .slice none 0 0] 203)
 obtain ⟨W0, hW0⟩ : ∃ W0, (w.alloc (.cells #[.int .i64 n, .int .i64 k, .slice ra rows.length rc] 203)).alloc (.cells #[.int .i64 0, .int .i64 0, .slice none 0 0] 203) = W0 := ⟨_, rfl⟩
 have hB : Below w.heap.size w W0 := by rw [← hW0]; exact ((Below.refl _ _).alloc (Nat.le_refl _) _).alloc (by simp) _
 have hsz : W0.heap.size = w.heap.size + 2 := by rw [← hW0]; simp
 rw [hW0] at blk0 blk1
 have x0 : W0.cell? ⟨w.heap.size, 0, none⟩ = some (.int .i64 n) := by simp [World.cell?, blk0]
 have x1 : W0.cell? ⟨w.heap.size, 1, none⟩ = some (.int .i64 k) := by simp [World.cell?, blk0]
 have x2 : W0.cell? ⟨w.heap.size, 2, none⟩ = some (.slice ra rows.length rc) := by simp [World.cell?, blk0]
 have xf : ∀ j, W0.frozen? ⟨w.heap.size, j, none⟩ = false := fun j => by simp [World.frozen?, blk0]
 have y0 : W0.cell? ⟨w.heap.size + 1, 0, none⟩ = some (.int .i64 0) := by simp [World.cell?, blk1]
 have y1 : W0.cell? ⟨w.heap.size + 1, 1, none⟩ = some (.int .i64 0) := by simp [World.cell?, blk1]
 have y2 : W0.cell? ⟨w.heap.size + 1, 2, none⟩ = some (.slice none 0 0) := by simp [World.cell?, blk1]
 have yf : ∀ j, W0.frozen? ⟨w.heap.size + 1, j, none⟩ = false := fun j => by simp [World.frozen?, blk1]
 have hmk := run_make_rows rows.length hm
 have H0 : Shut (MidAt W0 (W0.alloc (.cells (madeCells #[Value.slice none 0 0, Value.slice none 0 0] (rows.length * 2)) 237)) W0.heap.size n k rows.length 0 (rows.map MRow.says)) := ⟨(Below.refl _ _).alloc (Nat.le_refl _) _, Nat.le_refl _, by simp, [], rfl, by simpa using rows_made W0 rows.length 237, (fun x hx => by cases hx), rfl⟩
 have HX := Shut.mk (And.intro x0 (And.intro x1 (And.intro x2 (And.intro y0 (And.intro y1 (And.intro y2 (And.intro xf yf)))))))
 have HBK := Shut.mk (And.intro blk0 blk1)
 have x2' : (W0.alloc (.cells (madeCells #[Value.slice none 0 0, Value.slice none 0 0] (rows.length * 2)) 237)).cell? ⟨w.heap.size, 2, none⟩ = some (.slice ra rows.length rc) := cellA' x2 _
 rw [← hW0] at x2 x2'
 replace hl := hl.below hB (Nat.le_refl _)
 replace hall : ∀ x ∈ rows, RowIn W0 x := fun x hx => (hall x hx).below hB
 have HW := Shut.mk hW0
 have HSZ := Shut.mk hsz
 clear blk0 blk1 x0 x1 y0 y1 y2 xf yf hW0 hsz
 go_enter Tryz.func188, Tryz.ntmps188
 go_wp2
 rw [HW.out]
 rw [HSZ.out] at H0
 clear x2 x2' hmk
 generalize W0.alloc (.cells (madeCells #[Value.slice none 0 0, Value.slice none 0 0] (rows.length * 2)) 237) = W1 at *
 go_loopw [13] (fun m wr => ∃ q : Nat, q ≤ rows.length ∧ m = .int .i64 q ∧ Shut (MidAt W0 wr (w.heap.size + 2) n k rows.length q (rows.map MRow.says))) (fun m _ => rows.length - (intOf m).toNat)
 case atStart => exact ⟨0, Nat.zero_le _, rfl, H0⟩
 case round =>
  clear H0
  obtain ⟨q, hq, rfl, HI⟩ := hrel
  by_cases hlt : q < rows.length
  ·have i1 := HI.out.1
   obtain ⟨ab, ao, rfl⟩ := hl.some (k := 2 * q) (by rw [rowCells_length]; omega)
   obtain ⟨a0, a1⟩ := row_at (hl.below i1 (Nat.le_refl _)) hlt
   have rA := (hall _ (List.getElem_mem hlt)).below i1
   have hfA := hf _ (List.getElem_mem hlt)
   have HT : Shut ((rows.map MRow.says).take (q + 1) = (rows.map MRow.says).take q ++ [rows[q].says]) := ⟨by rw [List.take_succ_eq_append_getElem (by simpa using hlt)]; simp⟩
   generalize rows[q]'hlt = R at *
   have bd : Below wr.heap.size wr (wr.alloc (.cells #[R.hv, R.dv] 237)) := (Below.refl _ _).alloc (Nat.le_refl _) _
   obtain ⟨v0, v1⟩ := Box2.mk wr R.hv R.dv 237
   have hC := rowCopy_any R n k _ (rA.below bd) hfA n1 n2 k1 k2
   have HI2 := Shut.mk (HI.out.below bd)
   have HLT : Shut (w.heap.size + 2 < wr.heap.size) := ⟨HI.out.2.2.1⟩
   have HFA := Shut.mk hfA
   obtain ⟨rha, rhc, rh, rda, rdc, rd⟩ := R
   simp only [MRow.hv, MRow.dv] at *
   clear i1 rA HI hfA hl hall hf bd
   go_wp2_with fail
   refine hC.mono ?_
   rintro e w2 ⟨t, rfl, hN, hS, hb2⟩
   have HI3 := HI2.out.below hb2
   obtain ⟨c0, c1, cf⟩ := HI3.cells hlt
   have cf0 := cf (q * 2)
   have cf1 := cf (q * 2 + 1)
   have hO : Own3 w2 (w.heap.size + 2) n k t := hN.own (by rw [hS]; exact HFA.out) (by have := HLT.out; simp; omega)
   have R1 := Shut.mk (HI3.put hlt hO (by rw [HT.out, hS]))
   clear hC hN hS hb2 HI3 HI2 hO cf v0 v1 a0 a1
   obtain ⟨tha, thc, th, tda, tdc, td⟩ := t
   simp only [MRow.hv, MRow.dv] at *
   go_wp2
   go_roundw
   case rel => exact ⟨q + 1, by omega, by go_num, R1⟩
   case measure => simp [intOf]; omega
  ·obtain rfl : q = rows.length := by omega
   have i1 := HI.out.1
   obtain ⟨R, hRl, hCp, hRs⟩ := HI.out.done (by simp)
   have HR := Shut.mk (And.intro (hCp.from hB) hRs)
   have bk0 := (i1.block w.heap.size (by rw [HSZ.out]; omega)).trans HBK.out.1
   have bk1 := (i1.block (w.heap.size + 1) (by rw [HSZ.out]; omega)).trans HBK.out.2
   have HBK2 := Shut.mk (And.intro bk0 bk1)
   have x0 := cellC HX.out.1 i1
   have x1 := cellC HX.out.2.1 i1
   have x2 := cellC HX.out.2.2.1 i1
   have y0 := cellC HX.out.2.2.2.1 i1
   have y1 := cellC HX.out.2.2.2.2.1 i1
   have y2 := cellC HX.out.2.2.2.2.2.1 i1
   have xf := ((bcell i1).2 w.heap.size 2 (by rw [HSZ.out]; omega)).trans (HX.out.2.2.2.2.2.2.1 2)
   have yf0 := ((bcell i1).2 (w.heap.size + 1) 0 (by rw [HSZ.out]; omega)).trans (HX.out.2.2.2.2.2.2.2 0)
   have yf1 := ((bcell i1).2 (w.heap.size + 1) 1 (by rw [HSZ.out]; omega)).trans (HX.out.2.2.2.2.2.2.2 1)
   have yf2 := ((bcell i1).2 (w.heap.size + 1) 2 (by rw [HSZ.out]; omega)).trans (HX.out.2.2.2.2.2.2.2 2)
   have hBw : Below w.heap.size w wr := hB.trans (i1.mono hB.size)
   clear i1 HI hCp hRs hRl bk0 bk1 HX HBK hl hall hf
   go_wp2
   obtain ⟨rs, hrs⟩ : ∃ rs, Value.slice (some ⟨w.heap.size + 1 + 1, 0, none⟩) rows.length rows.length = rs := ⟨_, rfl⟩
   rw [hrs]
   have hA : Below w.heap.size w (wr.setCell ⟨w.heap.size, 2, none⟩ rs) := hBw.setCell (p := ⟨w.heap.size, 2, none⟩) (by simp) rs
   have c1 := HR.out.1.far n1 k1 HBK2.out.1 (boxy3 _ _ _ _ _) (by omega) (grown_setCell wr w.heap.size 2 rs) hA
   have y0' : (wr.setCell ⟨w.heap.size, 2, none⟩ rs).cell? ⟨w.heap.size + 1, 0, none⟩ = some (.int .i64 0) := by rw [World.cell?_setCell_other _ _ _ _ (by intro e; injection e; omega)]; exact y0
   have y1' : (wr.setCell ⟨w.heap.size, 2, none⟩ rs).cell? ⟨w.heap.size + 1, 1, none⟩ = some (.int .i64 0) := by rw [World.cell?_setCell_other _ _ _ _ (by intro e; injection e; omega)]; exact y1
   have y2' : (wr.setCell ⟨w.heap.size, 2, none⟩ rs).cell? ⟨w.heap.size + 1, 2, none⟩ = some (.slice none 0 0) := by rw [World.cell?_setCell_other _ _ _ _ (by intro e; injection e; omega)]; exact y2
   have bk1 := block_set (o := 2) (v := rs) HBK2.out.2 (show w.heap.size + 1 ≠ w.heap.size by omega)
   obtain ⟨z0, z1, z2⟩ := set3 y0' y1' y2' (.int .i64 n) (.int .i64 k) rs
   have gr := grown_trans (grown_trans (grown_setCell (wr.setCell ⟨w.heap.size, 2, none⟩ rs) (w.heap.size + 1) 0 (.int .i64 n)) (grown_setCell _ (w.heap.size + 1) 1 (.int .i64 k))) (grown_setCell _ (w.heap.size + 1) 2 rs)
   have hF := ((hA.setCell (p := ⟨w.heap.size + 1, 0, none⟩) (by simp) (.int .i64 n)).setCell (p := ⟨w.heap.size + 1, 1, none⟩) (by simp) (.int .i64 k)).setCell (p := ⟨w.heap.size + 1, 2, none⟩) (by simp) rs
   have c2 := c1.far n1 k1 bk1 (boxy3 _ _ _ _ _) (by omega) gr hF
   clear x0 x1 x2 y0 y1 y2 xf yf0 yf1 yf2 y0' y1' y2' bk1 gr hA c1 HBK2
   generalize (((wr.setCell ⟨w.heap.size, 2, none⟩ rs).setCell ⟨w.heap.size + 1, 0, none⟩ (.int .i64 n)).setCell ⟨w.heap.size + 1, 1, none⟩ (.int .i64 k)).setCell ⟨w.heap.size + 1, 2, none⟩ rs = w9 at *
   refine bodyPost_ret (v := .agg #[.int .i64 n, .int .i64 k, rs]) (by simp [results, Tryz.results188, go_sem, z0, z1, z2]) rfl ?_
   exact ⟨w.heap.size + 2, R, by rw [← hrs], c2, HR.out.2⟩

end Go.Proofs.YtakkajjoeimkdaaGreatDoor
