/-
  The walk of CodeAdds, over whatever Make and Check answer as chapter 4 asks.
-/
import Derived.Test.YtdhholcbmeoagabDoorCode3
import Derived.Test.YtdhholcbmeoagabDoorClone
import Derived.Test.YtdhholcbmeoagabDoorSumLaw
import Derived.Test.YtdhholcbmeoagabDoorSame
import Derived.RegionTactic
import Derived.BigRegion
import Derived.Deep.CutBlock
namespace Go.Proofs.YtdhholcbmeoagabDoor
open Go.RowKit
set_option linter.unusedVariables false
set_option linter.unusedSimpArgs false

/-- one cell of what lies is written -/
theorem lies_set {w : World} {g k : Nat} {xs : List Value} (h : Lies w (some ⟨g, 0, none⟩) xs) (hk : k < xs.length) (v : Value) : Lies (w.setCell ⟨g, k, none⟩ v) (some ⟨g, 0, none⟩) (xs.set k v) := by
  refine Lies.mk fun j hj => ?_
  have hj' : j < xs.length := by simpa using hj
  have hc := h.at (k := j) (u := xs[j]) (by simp [hj'])
  rw [Nat.zero_add] at hc ⊢
  by_cases e : j = k
  · subst e
    rw [World.cell?_setCell_same _ _ _ hc]
    simp
  · rw [World.cell?_setCell_other _ _ _ _ (by intro e'; cases e'; exact e rfl), hc]
    simp [List.getElem_set, show ¬ k = j from fun h => e h.symm]

theorem xorK_set {xs ys : List UInt8} (h : ys.length = xs.length) {k : Nat} (hk : k < xs.length) : (bs (xorK xs ys k)).set k (.int .u8 ((xs[k].toNat ^^^ (ys[k]'(by omega)).toNat : Nat) : Int)) = bs (xorK xs ys (k + 1)) := by
  apply List.ext_getElem?
  intro j
  rw [List.getElem?_set]
  simp only [bs, List.getElem?_map]
  by_cases hj : j < xs.length
  · rw [xorK_get h k j hj, xorK_get h (k + 1) j hj]
    by_cases e : k = j
    · subst e
      have hl : k < (xorK xs ys k).length := by
        have := xorK_get h k k hj
        exact (List.getElem?_eq_some_iff.1 this).1
      simp [hl]
    · rw [if_neg e]
      by_cases hjk : j < k
      · simp [hjk, show j < k + 1 by omega]
      · simp [hjk, show ¬ j < k + 1 by omega]
  · have hn : ∀ q, (xorK xs ys q)[j]? = none := fun q => by
      apply List.getElem?_eq_none
      simp [xorK, xorl, h]
      omega
    rw [hn, hn]
    by_cases e : k = j
    · omega
    · rw [if_neg e]

set_option maxHeartbeats 1000000 in
theorem codeAdds_bad (hM : MakeOk) (hC : CheckOk) (B K : Int) (a b : Option Addr) (ca cb : Nat) (x y : List UInt8) (id : Int) (w : World) (hB : I64 B) (hK : I64 K) (hx : x.length ≤ maxLen) (hcx : x.length ≤ ca) (ha : Lies w a (bs x)) (hy : y.length ≤ maxLen) (hcy : y.length ≤ cb) (hb : Lies w b (bs y)) (hL : Laid w)
    (hbad : ¬ (symCode B K x id = 0 ∧ symCode B K y id = 0)) :
    Calls Tryd.prog 6 #[.agg #[.int .i64 B, .int .i64 K], .slice a x.length ca, .slice b y.length cb, .int .i64 id] w fun e w' => e = .returned (.bool true) ∧ Below w.heap.size w w' := by
  have HX := Shut.mk hx
  have HY := Shut.mk hy
  have HCX := Shut.mk hcx
  have HCY := Shut.mk hcy
  clear hx hy hcx hcy
  go_enter Tryd.func6, Tryd.ntmps6
  go_wp2_with fail
  have bw : Below w.heap.size w (w.alloc (.cells #[.int .i64 B, .int .i64 K] 34)) := (Below.refl _ _).alloc (Nat.le_refl _) _
  refine (hM B K id a ca x _ hB hK HX.out HCX.out (ha.below bw (Nat.le_refl _)) (hL.below bw)).mono ?_
  rintro e w1 ⟨a1, c1, rfl, hl1, hb1⟩
  obtain ⟨p0, p1⟩ := (Boxed.mk w B K 34).below hb1
  have hbb : Below w.heap.size w w1 := boxBelow hb1
  clear hb1 bw hl1
  obtain ⟨E, hE⟩ : ∃ E, symCode B K x id = E := ⟨_, rfl⟩
  obtain ⟨F, hF⟩ : ∃ F, symCode B K y id = F := ⟨_, rfl⟩
  rw [hE, hF] at hbad
  have HF := Shut.mk hF
  rw [hE]
  clear hE hF
  go_upto_region 2 with fail
  have bd : Below w1.heap.size w1 (w1.alloc (.cells #[.int .i64 (symID B K x id), .slice a1 (symRes B K x id).length c1] 38)) := (Below.refl _ _).alloc (Nat.le_refl _) _
  replace p0 := cellB p0 bd
  replace p1 := cellB p1 bd
  replace hbb := hbb.trans (bd.mono hbb.size)
  clear bd
  generalize w1.alloc (.cells #[.int .i64 (symID B K x id), .slice a1 (symRes B K x id).length c1] 38) = w2 at *
  go_wp2_with fail
  refine (hM B K id b cb y _ hB hK HY.out HCY.out (hb.below hbb (Nat.le_refl _)) (hL.below hbb)).mono ?_
  rintro e w3 ⟨a3, c3, rfl, hl3, hb3⟩
  replace hbb := hbb.trans (hb3.mono hbb.size)
  clear hb3 hl3 p0 p1
  rw [HF.out]
  go_upto_region 3 with fail
  have bd : Below w3.heap.size w3 (w3.alloc (.cells #[.int .i64 (symID B K y id), .slice a3 (symRes B K y id).length c3] 38)) := (Below.refl _ _).alloc (Nat.le_refl _) _
  replace hbb := hbb.trans (bd.mono hbb.size)
  clear bd
  generalize w3.alloc (.cells #[.int .i64 (symID B K y id), .slice a3 (symRes B K y id).length c3] 38) = w4 at *
  go_wp2_with fail
  refine (made_any hM hC _ (hL.below hbb)).mono ?_
  rintro e w5 ⟨rfl, hb5⟩
  replace hbb := hbb.trans (hb5.mono hbb.size)
  clear hb5
  by_cases hE : E = 0
  · have hF2 : (F != 0) = true := by
      have : ¬ F = 0 := fun e => hbad ⟨hE, e⟩
      simpa using this
    rw [hE]
    clear hE hbad
    go_wp2_with fail
    refine (made_any hM hC _ (hL.below hbb)).mono ?_
    rintro e w6 ⟨rfl, hb6⟩
    replace hbb := hbb.trans (hb6.mono hbb.size)
    go_wp2
    go_ret
    exact ⟨rfl, hbb⟩
  · have hE2 : (E != 0) = true := by simpa using hE
    clear hE hbad
    go_wp2_with fail
    refine (made_any hM hC _ (hL.below hbb)).mono ?_
    rintro e w6 ⟨rfl, hb6⟩
    replace hbb := hbb.trans (hb6.mono hbb.size)
    go_wp2
    go_ret
    exact ⟨rfl, hbb⟩

theorem symCode_zero {B K id : Int} {c : List UInt8} (h : symCode B K c id = 0) : cutCode B K c = 0 ∧ ∃ i : Nat, id = i ∧ i ≤ 9999 := by
  unfold symCode at h
  by_cases e : cutCode B K c = 0
  · rw [if_neg (by simp [e])] at h
    refine ⟨e, id.toNat, ?_⟩
    by_cases hi : id < 0 ∨ 9999 < id
    · rw [if_pos hi] at h; omega
    · omega
  · rw [if_pos e] at h; exact absurd h e

theorem symRes_good {B K : Int} {n k nb i : Nat} {c : List UInt8} (g : Good B K n k nb) (hl : c.length = n) (hi : i ≤ 9999) : symCode B K c i = 0 ∧ symID B K c i = i ∧ symRes B K c i = symL nb k c i := by
  obtain ⟨e1, _⟩ := cutCode_good g hl
  have e : symCode B K c i = 0 := by rw [symCode, if_neg (by simp [e1]), if_neg (by omega)]
  refine ⟨e, by simp [symID, e], ?_⟩
  rw [symRes, if_pos e, g.eN, g.eK]
  simp

/-- code.Make where all is right -/
theorem make_good (hM : MakeOk) {B K : Int} {n k nb i : Nat} (g : Good B K n k nb) (hB : I64 B) (hK : I64 K) (a : Option Addr) (ca : Nat) (x : List UInt8) (w : World) (hl : x.length = n) (hc : n ≤ ca) (ha : Lies w a (bs x)) (hL : Laid w) (hi : i ≤ 9999) :
    Calls Tryd.prog 12 #[.agg #[.int .i64 B, .int .i64 K], .slice a n ca, .int .i64 i] w fun e w' =>
      ∃ (a' : Option Addr) (c' : Nat), e = .returned (.tuple #[.agg #[.int .i64 i, .slice a' k c'], .int .i64 0]) ∧ Lies w' a' (bs (symL nb k x i)) ∧ Below w.heap.size w w' := by
  have h := hM B K i a ca x w hB hK (by have := g.n2; unfold maxLen; omega) (by omega) ha hL
  obtain ⟨e1, e2, e3⟩ := symRes_good g hl hi
  rw [e1, e2, e3, symL_length, hl] at h
  exact h

/-- sum.Add of two blocks that stand in a list laid anew -/
theorem add_two (w : World) (a : Option Addr) (ca : Nat) (b : Option Addr) (cb : Nat) (x y : List UInt8) (k : Nat) (hk1 : 1 ≤ k) (hk : k ≤ 16) (hx : x.length = k) (hy : y.length = k) (ha : Lies w a (bs x)) (hb : Lies w b (bs y)) :
    Calls Tryd.prog 19 #[.slice (some ⟨w.heap.size, 0, none⟩) 2 2] (w.alloc (.cells #[.slice a k ca, .slice b k cb] 36)) fun e w' =>
      ∃ (p : Option Addr) (q : Nat), e = .returned (.tuple #[.slice p k q, .int .i64 0]) ∧ Lies w' p (bs (xorl x y)) ∧ Below w.heap.size w w' := by
  have hl : Lies (w.alloc (.cells #[.slice a k ca, .slice b k cb] 36)) (some ⟨w.heap.size, 0, none⟩) ([⟨a, ca, x⟩, ⟨b, cb, y⟩].map Blk.val) := by
    have h := Lies.alloc_new w #[.slice a k ca, .slice b k cb] 36
    have e : ([⟨a, ca, x⟩, ⟨b, cb, y⟩].map Blk.val) = (#[.slice a k ca, .slice b k cb] : Array Value).toList := by simp [Blk.val, hx, hy]
    rw [e]
    exact h
  have hbw : Below w.heap.size w (w.alloc (.cells #[.slice a k ca, .slice b k cb] 36)) := (Below.refl _ _).alloc (Nat.le_refl _) _
  have hall : AllIn (w.alloc (.cells #[.slice a k ca, .slice b k cb] 36)) [⟨a, ca, x⟩, ⟨b, cb, y⟩] := by
    intro z hz
    simp at hz
    rcases hz with rfl | rfl
    · exact ⟨ha.below hbw (Nat.le_refl _), by unfold maxLen; simp [hx]; omega⟩
    · exact ⟨hb.below hbw (Nat.le_refl _), by unfold maxLen; simp [hy]; omega⟩
  have h := add_any (some ⟨w.heap.size, 0, none⟩) 2 [⟨a, ca, x⟩, ⟨b, cb, y⟩] _ (by unfold maxLen; simp) hl hall
  have hc : addCode [⟨a, ca, x⟩, ⟨b, cb, y⟩] = 0 := by
    simp [addCode, lens, chk, chkFrom, hx, hy]
    omega
  have hs : resL [⟨a, ca, x⟩, ⟨b, cb, y⟩] = xorl x y := by
    rw [resL, if_pos hc]
    simp only [sumBl, sumOf, List.map_cons, List.map_nil, List.headD_cons, sumTo]
    congr 1
    apply List.ext_getElem
    · rw [xorl_length _ _ (by simp [zeros])]; simp [zeros]
    · intro t h1 h2
      simp [xorl, zeros]
  rw [hc, hs, xorl_length _ _ (by omega), hx] at h
  refine h.mono ?_
  rintro e w' ⟨p, q, rfl, hl', hb'⟩
  exact ⟨p, q, rfl, hl', hbw.trans (hb'.mono hbw.size)⟩

/-- the cargo in the making -/
def AddInv (w5 wr : World) (g : Nat) (x y : List UInt8) (q : Nat) : Prop := Lies wr (some ⟨g, 0, none⟩) (bs (xorK x y q)) ∧ Below w5.heap.size w5 wr ∧ (∀ j, wr.frozen? ⟨g, j, none⟩ = false)

theorem AddInv.next {w5 wr : World} {g q n : Nat} {x y : List UInt8} (h : AddInv w5 wr g x y q) (hx : x.length = n) (hy : y.length = n) (hq : q < n) (hg : w5.heap.size ≤ g) :
    AddInv w5 (wr.setCell ⟨g, q, none⟩ (.int .u8 ((((x[q]'(by omega)).toNat ^^^ (y[q]'(by omega)).toNat) : Nat) : Int))) g x y (q + 1) := by
  have hyx : y.length = x.length := by omega
  have hl : q < (bs (xorK x y q)).length := by
    have := xorK_get hyx q q (by omega)
    rw [bs_length]
    exact (List.getElem?_eq_some_iff.1 this).1
  refine ⟨?_, h.2.1.setCell (by simpa using hg) _, fun j => by simpa using h.2.2 j⟩
  have := lies_set h.1 hl (.int .u8 ((((x[q]'(by omega)).toNat ^^^ (y[q]'(by omega)).toNat) : Nat) : Int))
  rwa [xorK_set hyx (by omega)] at this

theorem AddInv.drew {w5 wr : World} {g q : Nat} {x y : List UInt8} (h : AddInv w5 wr g x y q) : AddInv w5 wr.drew g x y q := ⟨h.1.drewN 1, h.2.1.drew, h.2.2⟩

set_option maxHeartbeats 1000000 in
theorem codeAdds_good (hM : MakeOk) (hC : CheckOk) (B K : Int) (n k nb i : Nat) (a b : Option Addr) (ca cb : Nat) (x y : List UInt8) (w : World) (hB : I64 B) (hK : I64 K) (hg : Good B K n k nb) (hi : i ≤ 9999) (hx : x.length = n) (hcx : n ≤ ca) (ha : Lies w a (bs x)) (hy : y.length = n) (hcy : n ≤ cb) (hb : Lies w b (bs y)) (hL : Laid w) :
    Calls Tryd.prog 6 #[.agg #[.int .i64 B, .int .i64 K], .slice a n ca, .slice b n cb, .int .i64 i] w fun e w' => e = .returned (.bool true) ∧ Below w.heap.size w w' := by
  have HX := Shut.mk hx
  have HY := Shut.mk hy
  have n1 := hg.n1
  have n2 := hg.n2
  have k1 := hg.k1
  have k2 := hg.k2
  have HG := Shut.mk hg
  clear hx hy hg
  go_enter Tryd.func6, Tryd.ntmps6
  go_wp2_with fail
  have bw : Below w.heap.size w (w.alloc (.cells #[.int .i64 B, .int .i64 K] 34)) := (Below.refl _ _).alloc (Nat.le_refl _) _
  refine (make_good hM HG.out hB hK a ca x _ HX.out hcx (ha.below bw (Nat.le_refl _)) (hL.below bw) hi).mono ?_
  rintro e w1 ⟨a1, c1, rfl, hl1, hb1⟩
  obtain ⟨p0, p1⟩ := (Boxed.mk w B K 34).below hb1
  have hbb : Below w.heap.size w w1 := boxBelow hb1
  clear hb1 bw
  go_upto_region 2 with fail
  obtain ⟨s0, s1⟩ := BoxS.mk w1 i (.slice a1 k c1) 38
  have bd : Below w1.heap.size w1 (w1.alloc (.cells #[.int .i64 i, .slice a1 k c1] 38)) := (Below.refl _ _).alloc (Nat.le_refl _) _
  replace p0 := cellB p0 bd
  replace p1 := cellB p1 bd
  replace hl1 := hl1.below bd (Nat.le_refl _)
  replace hbb := hbb.trans (bd.mono hbb.size)
  clear bd s0
  generalize w1.alloc (.cells #[.int .i64 i, .slice a1 k c1] 38) = w2 at *
  go_wp2_with fail
  refine (make_good hM HG.out hB hK b cb y _ HY.out hcy (hb.below hbb (Nat.le_refl _)) (hL.below hbb) hi).mono ?_
  rintro e w3 ⟨a3, c3, rfl, hl3, hb3⟩
  replace p0 := cellB p0 hb3
  replace p1 := cellB p1 hb3
  replace s1 := cellB s1 hb3
  replace hl1 := hl1.below hb3 (Nat.le_refl _)
  replace hbb := hbb.trans (hb3.mono hbb.size)
  clear hb3
  go_upto_region 3 with fail
  obtain ⟨t0, t1⟩ := BoxS.mk w3 i (.slice a3 k c3) 38
  have bd : Below w3.heap.size w3 (w3.alloc (.cells #[.int .i64 i, .slice a3 k c3] 38)) := (Below.refl _ _).alloc (Nat.le_refl _) _
  replace p0 := cellB p0 bd
  replace p1 := cellB p1 bd
  replace s1 := cellB s1 bd
  replace hl1 := hl1.below bd (Nat.le_refl _)
  replace hl3 := hl3.below bd (Nat.le_refl _)
  replace hbb := hbb.trans (bd.mono hbb.size)
  clear bd t0
  generalize w3.alloc (.cells #[.int .i64 i, .slice a3 k c3] 38) = w4 at *
  go_wp2_with fail
  refine (made_any hM hC _ (hL.below hbb)).mono ?_
  rintro e w5 ⟨rfl, hb5⟩
  replace p0 := cellB p0 hb5
  replace p1 := cellB p1 hb5
  replace s1 := cellB s1 hb5
  replace t1 := cellB t1 hb5
  replace hl1 := hl1.below hb5 (Nat.le_refl _)
  replace hl3 := hl3.below hb5 (Nat.le_refl _)
  replace hbb := hbb.trans (hb5.mono hbb.size)
  clear hb5
  obtain ⟨xb, xo, rfl⟩ := ha.some (k := 0) (by rw [bs_length, HX.out]; omega)
  have hCl := clone_any xb xo ca x w5 (by rw [HX.out]; omega) (ha.below hbb (Nat.le_refl _))
  rw [HX.out] at hCl
  go_wp2_with fail
  refine hCl.mono ?_
  rintro e w6 ⟨v6, rfl, ho6, hb6⟩
  obtain ⟨g, cap, f, rfl, hg6, hr6, hcap1, hcap2, hf6⟩ := own_row ho6 (by omega)
  obtain ⟨a6, c6, e6, hl6, hz6⟩ := own_lies ho6
  cases e6
  clear hz6
  have H0 : Shut (AddInv w5 w6 g x y 0) := ⟨by rw [xorK_zero]; exact hl6, hb6, fun j => hr6.frozen j⟩
  have HS : Shut (w5.cell? ⟨w.heap.size, 0, none⟩ = some (.int .i64 B) ∧ w5.cell? ⟨w.heap.size, 1, none⟩ = some (.int .i64 K) ∧ w5.cell? ⟨w1.heap.size, 1, none⟩ = some (.slice a1 k c1) ∧ w5.cell? ⟨w3.heap.size, 1, none⟩ = some (.slice a3 k c3)) := ⟨p0, p1, s1, t1⟩
  have hb5 := hb.below hbb (Nat.le_refl _)
  obtain ⟨yb, yo, rfl⟩ := hb5.some (k := 0) (by rw [bs_length, HY.out]; omega)
  clear p0 p1 s1 t1 hl6 hb6 hr6 hf6 ho6 hCl
  go_wp2
  go_loopw [46] (fun m wr => ∃ q : Nat, q ≤ n ∧ m = .int .i64 q ∧ Shut (AddInv w5 wr g x y q)) (fun m _ => n - (intOf m).toNat)
  case atStart => exact ⟨0, Nat.zero_le _, rfl, H0⟩
  case round =>
    clear H0
    obtain ⟨q, hq, rfl, hI⟩ := hrel
    by_cases hlt : q < n
    · have hqx : q < x.length := by rw [HX.out]; exact hlt
      have hqy : q < y.length := by rw [HY.out]; exact hlt
      have c1' : wr.cell? ⟨g, q, none⟩ = some (.int .u8 (x[q].toNat : Int)) := by
        have h := hI.out.1.at (k := q) (u := .int .u8 (x[q].toNat : Int)) (by
          have := xorK_get (by rw [HX.out, HY.out]) (xs := x) (ys := y) q q hqx
          simp [bs, this])
        simpa using h
      have c2' : wr.cell? ⟨yb, yo + q, none⟩ = some (.int .u8 (y[q].toNat : Int)) := (hb5.below hI.out.2.1 (Nat.le_refl _)).at (bs_get y q hqy)
      have f1 := hI.out.2.2 q
      have R := Shut.mk (hI.out.next HX.out HY.out hlt hg6)
      generalize x[q]'hqx = X at *
      generalize y[q]'hqy = Y at *
      have hxo : bits .xor .u8 (X.toNat : Int) (Y.toNat : Int) = ((X.toNat ^^^ Y.toNat : Nat) : Int) := by rw [u8xor]; simp
      clear hI
      go_wp2
      go_region
      have R2 := Shut.mk R.out.drew
      clear R c1' c2' f1 hxo
      generalize (wr.setCell ⟨g, q, none⟩ (.int .u8 ((X.toNat ^^^ Y.toNat : Nat) : Int))).drew = w7 at *
      go_wp2
      exact ⟨⟨q + 1, by omega, by go_num, R2⟩, by simp [intOf]; omega⟩
    · obtain rfl : q = n := by omega
      have hyx : y.length = x.length := by rw [HX.out, HY.out]
      have hl7 : Lies wr (some ⟨g, 0, none⟩) (bs (xorl x y)) := by
        have h := hI.out.1
        have e := xorK_all hyx
        rw [HX.out] at e
        rwa [e] at h
      have hxl : (xorl x y).length = q := by rw [xorl_length _ _ hyx, HX.out]
      have HXL := Shut.mk hxl
      have HXY := Shut.mk (symL_xor (nb := nb) (k := k) (i := i) hyx)
      obtain ⟨p0, p1, s1, t1⟩ := HS.out
      have b5 := hI.out.2.1
      replace p0 := cellB p0 b5
      replace p1 := cellB p1 b5
      replace s1 := cellB s1 b5
      replace t1 := cellB t1 b5
      replace hl1 := hl1.below b5 (Nat.le_refl _)
      replace hl3 := hl3.below b5 (Nat.le_refl _)
      replace hbb := hbb.trans (b5.mono hbb.size)
      clear hI HS b5 hlt hyx hxl hb5
      go_wp2_with fail
      refine (make_good hM HG.out hB hK _ cap (xorl x y) _ HXL.out hcap1 hl7 (hL.below hbb) hi).mono ?_
      rintro e w8 ⟨a8, c8, rfl, hl8, hb8⟩
      rw [HXY.out] at hl8
      replace p0 := cellB p0 hb8
      replace p1 := cellB p1 hb8
      replace s1 := cellB s1 hb8
      replace t1 := cellB t1 hb8
      replace hl1 := hl1.below hb8 (Nat.le_refl _)
      replace hl3 := hl3.below hb8 (Nat.le_refl _)
      replace hbb := hbb.trans (hb8.mono hbb.size)
      clear hb8 hl7
      go_upto_region 12 with fail
      obtain ⟨u0, u1⟩ := BoxS.mk w8 i (.slice a8 k c8) 38
      have bd : Below w8.heap.size w8 (w8.alloc (.cells #[.int .i64 i, .slice a8 k c8] 38)) := (Below.refl _ _).alloc (Nat.le_refl _) _
      replace p0 := cellB p0 bd
      replace p1 := cellB p1 bd
      replace s1 := cellB s1 bd
      replace t1 := cellB t1 bd
      replace hl1 := hl1.below bd (Nat.le_refl _)
      replace hl3 := hl3.below bd (Nat.le_refl _)
      replace hl8 := hl8.below bd (Nat.le_refl _)
      replace hbb := hbb.trans (bd.mono hbb.size)
      clear bd
      generalize w8.alloc (.cells #[.int .i64 i, .slice a8 k c8] 38) = w9 at *
      go_wp2_with fail
      refine (add_two w9 a1 c1 a3 c3 (symL nb k x i) (symL nb k y i) k k1 k2 (symL_length _ _ _ _) (symL_length _ _ _ _) hl1 hl3).mono ?_
      rintro e w10 ⟨a10, c10, rfl, hl10, hb10⟩
      replace p0 := cellB p0 hb10
      replace p1 := cellB p1 hb10
      replace u0 := cellB u0 hb10
      replace u1 := cellB u1 hb10
      replace hl8 := hl8.below hb10 (Nat.le_refl _)
      replace hbb := hbb.trans (hb10.mono hbb.size)
      clear hb10 s1 t1 hl1 hl3
      have hlr : (xorl (symL nb k x i) (symL nb k y i)).length = k := by rw [xorl_length _ _ (by rw [symL_length, symL_length]), symL_length]
      have hS := same_any a8 a10 k k c8 c10 _ _ w10 hlr hlr hl8 hl10
      rw [decide_eq_true rfl] at hS
      clear hl8 hl10 hlr HXY
      go_wp2_with fail
      refine hS.mono ?_
      rintro e w11 ⟨rfl, rfl⟩
      clear hS
      go_wp2_with fail
      refine (hC B K i a8 k c8 w10 hB hK (by unfold maxLen; omega)).mono ?_
      rintro e w12 ⟨rfl, hb12⟩
      have e0 : chkS B K i k = 0 := by
        rw [chkS, if_neg (by rw [chkP_good HG.out]; simp), if_neg (by omega), if_neg (by rw [HG.out.eK]; simp)]
      rw [e0]
      replace hbb := hbb.trans (hb12.mono hbb.size)
      clear hb12 p0 p1 u0 u1 e0
      go_wp2
      go_ret
      exact ⟨rfl, hbb⟩

theorem W_codeAdds (hM : MakeOk) (hC : CheckOk) (B K : Int) (a b : Option Addr) (ca cb : Nat) (x y : List UInt8) (id : Int) (w : World) (hB : I64 B) (hK : I64 K) (hx : x.length ≤ maxLen) (hcx : x.length ≤ ca) (ha : Lies w a (bs x)) (hy : y.length ≤ maxLen) (hcy : y.length ≤ cb) (hb : Lies w b (bs y)) (hL : Laid w) :
    Calls Tryd.prog 6 #[.agg #[.int .i64 B, .int .i64 K], .slice a x.length ca, .slice b y.length cb, .int .i64 id] w fun e w' => e = .returned (.bool true) ∧ Below w.heap.size w w' := by
  by_cases h : symCode B K x id = 0 ∧ symCode B K y id = 0
  · obtain ⟨c1, i, rfl, hi⟩ := symCode_zero h.1
    obtain ⟨c2, _⟩ := symCode_zero h.2
    obtain ⟨n, k, nb, g, hl⟩ := cutCode_zero c1
    obtain ⟨n', k', nb', g', hl'⟩ := cutCode_zero c2
    have e : y.length = n := by have := g.eB; have := g'.eB; omega
    have hcx' : n ≤ ca := by omega
    have hcy' : n ≤ cb := by omega
    rw [hl, e]
    exact codeAdds_good hM hC B K n k nb i a b ca cb x y w hB hK g hi hl hcx' ha e hcy' hb hL
  · exact codeAdds_bad hM hC B K a b ca cb x y id w hB hK hx hcx ha hy hcy hb hL h

end Go.Proofs.YtdhholcbmeoagabDoor
