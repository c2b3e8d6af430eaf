import Derived.Test.YtkiejflgphjfjacDoorPart18
import Derived.Test.YtkiejflgphjfjacDoorPart19
import Derived.Test.YtkiejflgphjfjacDoorPart1
import Derived.ProofKit
import Derived.OpenShut
import Derived.ShutString
import Derived.ChangeOld
import Derived.Below
import Derived.Carry
import Derived.SizedLaws
import Derived.Deep.Slices
import Derived.Test.YtkiejflgphjfjacDoorPart6
import Derived.Lib.SmallJoins
import Derived.Test.YtkiejflgphjfjacDoorPart15
import Derived.Test.YtkiejflgphjfjacDoorPart12
import Derived.Test.YtkiejflgphjfjacDoorTie
import Derived.LaidMore
import Derived.Stop.Joined
import Derived.Lib.LaidTab
/-
  SolveOrder: the walk.
-/
namespace Go.Proofs.YtkiejflgphjfjacDoor
open Go.RowKit
set_option linter.unusedVariables false
set_option linter.unusedSimpArgs false

/-- where nothing is asked -/
theorem order_out (B K : Int) (n m m2 : Nat) (a : Option Addr) (cap : Nat) (ia ja : Option Addr) (ic jc : Nat) (q : Int) (w : World) (hB : I64 B) (hK : I64 K) (hn : n ≤ maxLen) (hm : m ≤ 2 ^ 60) (hm2 : m2 ≤ 2 ^ 60) (hq : chkP B K = q) (h : q ≠ 0 ∨ (n : Int) ≠ B ∨ 30 < m + m2) :
    Calls Tryd.prog 5 #[.agg #[.int .i64 B, .int .i64 K], .slice a n cap, .slice ia m ic, .slice ja m2 jc] w fun e w' => e = .returned (.bool true) ∧ Below w.heap.size w w' := by
  unfold maxLen at hn
  have hBl : Below w.heap.size w (w.alloc (.cells #[.int .i64 B, .int .i64 K] 23)) := (Below.refl _ _).alloc (Nat.le_refl _) _
  have blk : (w.alloc (.cells #[.int .i64 B, .int .i64 K] 23)).heap[w.heap.size]? = some (.cells #[.int .i64 B, .int .i64 K] 23 (0, 0)) := by rw [heap_alloc_eq, if_pos rfl]
  have HB := Shut.mk blk
  have HQ := Shut.mk hq
  have HH : Shut ((q != 0) = true ∨ (q = 0 ∧ ((n : Int) != B) = true) ∨ (q = 0 ∧ ((n : Int) != B) = false ∧ 30 < m + m2)) := ⟨by
    by_cases h0 : q = 0
    · by_cases h1 : (n : Int) = B
      · exact .inr (.inr ⟨h0, by simpa using h1, by rcases h with h | h | h; exact absurd h0 h; exact absurd h1 h; exact h⟩)
      · exact .inr (.inl ⟨h0, by simpa using h1⟩)
    · exact .inl (by simpa using h0)⟩
  clear blk hq h
  go_enter Tryd.func5, Tryd.ntmps5
  go_wp2_with fail
  refine (solved_any _).mono ?_
  rintro e w1 ⟨rfl, hb1⟩
  obtain ⟨x0, x1⟩ := cells2 (blk_below HB.out hb1)
  replace HB := Shut.mk (blk_below HB.out hb1)
  replace hBl := hBl.trans (hb1.mono hBl.size)
  clear hb1
  go_wp2_with fail
  refine (cutCheck_any B K _ hB hK).mono ?_
  rintro e w2 ⟨rfl, hb2⟩
  rw [HQ.out]
  obtain ⟨y0, y1⟩ := cells2 (blk_below HB.out hb2)
  replace hBl := hBl.trans (hb2.mono hBl.size)
  clear hb2 x0 x1
  rcases HH.out with h1 | ⟨rfl, h2⟩ | ⟨rfl, h2, h3⟩
  · go_wp2_with fail
    refine (solved_any _).mono ?_
    rintro e w3 ⟨rfl, hb3⟩
    replace hBl := hBl.trans (hb3.mono hBl.size)
    clear hb3
    go_wp2
    go_ret
    exact ⟨rfl, hBl⟩
  · go_wp2_with fail
    refine (solved_any _).mono ?_
    rintro e w3 ⟨rfl, hb3⟩
    replace hBl := hBl.trans (hb3.mono hBl.size)
    clear hb3
    go_wp2
    go_ret
    exact ⟨rfl, hBl⟩
  · have h4 : (30 : Int) < (m : Int) + (m2 : Int) := by omega
    go_wp2_with fail
    refine (solved_any _).mono ?_
    rintro e w3 ⟨rfl, hb3⟩
    replace hBl := hBl.trans (hb3.mono hBl.size)
    clear hb3
    go_wp2
    go_ret
    exact ⟨rfl, hBl⟩

/-- two lists of symbols, joined -/
theorem concat2S (b m1 m2 mm c1 c2 : Nat) (a1 a2 : Option Addr) (l1 l2 : List MSym) (W : World) (hk : W.heap[b]? = some (.cells #[.slice a1 m1 c1, .slice a2 m2 c2] 24 (0, 0))) (h1 : Lies W a1 (symCells l1)) (h2 : Lies W a2 (symCells l2)) (e1 : l1.length = m1) (e2 : l2.length = m2) (he : m1 + m2 = mm) (hmm : mm ≤ 60) :
    Calls Tryd.prog 19 #[.slice (some ⟨b, 0, none⟩) 2 2] W fun e w' => ∃ (ga : Option Addr) (gc : Nat), e = .returned (.slice ga mm gc) ∧ Shut (Lies w' ga (symCells (l1 ++ l2))) ∧ Below W.heap.size W w' := by
  obtain ⟨y0, y1⟩ := cells2 hk
  have e3 : [SBlk.mk a1 c1 l1, SBlk.mk a2 c2 l2].map SBlk.val = [.slice a1 m1 c1, .slice a2 m2 c2] := by simp [SBlk.val, e1, e2]
  have e4 : ([SBlk.mk a1 c1 l1, SBlk.mk a2 c2 l2].map SBlk.l).flatten = l1 ++ l2 := by simp
  have e5 : (l1 ++ l2).length = mm := by rw [List.length_append, e1, e2, he]
  have h := concatS_any (some ⟨b, 0, none⟩) 2 [SBlk.mk a1 c1 l1, SBlk.mk a2 c2 l2] W (by simp [maxLen]) (by rw [e4, e5]; omega)
    (by
      rw [e3]
      refine Lies.mk fun kk hkk => ?_
      match kk, hkk with
      | 0, _ => simpa using y0
      | 1, _ => simpa using y1)
    (fun x hx => by
      simp at hx
      rcases hx with rfl | rfl
      · exact h1
      · exact h2)
  refine h.mono ?_
  rintro e w' ⟨v, rfl, ho, hb⟩
  rw [e4, e5] at ho
  obtain ⟨ga, gc, rfl, hga, _⟩ := own_syms ho
  exact ⟨ga, gc, rfl, ⟨hga⟩, hb⟩

/-- symbols of the cargo by these numbers, in memory -/
def SymsOf (W : World) (nb k : Nat) (c : List UInt8) (la : Option Addr) (l : List MSym) (ids : List Nat) : Prop :=
  Lies W la (symCells l) ∧ (∀ y ∈ l, SymIn W y) ∧ l.length = ids.length ∧ l.map MSym.says = ids.map (symOf nb k c)

theorem SymsOf.below {W W' : World} {nb k : Nat} {c : List UInt8} {la : Option Addr} {l : List MSym} {ids : List Nat} (h : SymsOf W nb k c la l ids) (hb : Below W.heap.size W W') : SymsOf W' nb k c la l ids :=
  ⟨h.1.below hb (Nat.le_refl _), fun y hy => (h.2.1 y hy).below hb, h.2.2⟩

theorem SymsOf.app {W : World} {nb k : Nat} {c : List UInt8} {la lb ga : Option Addr} {l l' : List MSym} {ids js : List Nat} (h : SymsOf W nb k c la l ids) (h' : SymsOf W nb k c lb l' js) (hg : Lies W ga (symCells (l ++ l'))) : SymsOf W nb k c ga (l ++ l') (ids ++ js) :=
  ⟨hg, fun y hy => by
    rcases List.mem_append.1 hy with h1 | h1
    · exact h.2.1 y h1
    · exact h'.2.1 y h1, by rw [List.length_append, List.length_append, h.2.2.1, h'.2.2.1], by rw [List.map_append, List.map_append, h.2.2.2, h'.2.2.2]⟩

/-- what Decode answers of them -/
theorem order_decode {n k nb q : Nat} {c : List UInt8} {la : Option Addr} (lc : Nat) {l : List MSym} {ids : List Nat} {W : World} (g : Good n k n k nb) (hc : c.length = n) (h : SymsOf W nb k c la l ids) (hi : ∀ i ∈ ids, i ≤ 9999) (hq : ids.length = q) (h60 : q ≤ 60) (hL : Laid W) :
    Calls Tryd.prog 9 #[.agg #[.int .i64 n, .int .i64 k], .slice la q lc] W fun e w' => ∃ (a' : Option Addr) (c' z : Nat), e = .returned (.tuple #[.slice a' z c', .int .i64 (decCode n k (ids.map (symOf nb k c)))]) ∧ Shut (∃ r : List UInt8, r.length = z ∧ z ≤ 360 ∧ Lies w' a' (bs r) ∧ (decCode n k (ids.map (symOf nb k c)) = 0 → r = c)) ∧ Below W.heap.size W w' := by
  have n2 := g.n2
  have k2 := g.k2
  have hD := decode_any n k la lc l W ⟨by omega, by omega⟩ ⟨by omega, by omega⟩ h.1 h.2.1 (by rw [h.2.2.1]; unfold maxLen; omega) hL
  have hlen := decRes_len n k (l.map MSym.says)
  rw [h.2.2.1, hq, h.2.2.2] at hD
  rw [h.2.2.2] at hlen
  refine hD.mono ?_
  rintro e w' ⟨a', c', rfl, hr, hb⟩
  refine ⟨a', c', _, rfl, ⟨_, rfl, ?_, hr, fun h0 => ?_⟩, hb⟩
  · simp only [Int.toNat_natCast] at hlen
    omega
  · exact (code_sub g hc hi hi (by omega) (by omega) (fun i hh => hh) h0).2

theorem order_symbols (n k nb m : Nat) (a : Option Addr) (cap : Nat) (c : List UInt8) (ia : Option Addr) (ic : Nat) (xs : List Int) (w : World) (g : Good n k n k nb) (hl : c.length = n) (hcap : n ≤ cap) (ha : Lies w a (bs c)) (hi : Lies w ia (xs.map (Value.int .i64))) (hix : ∀ x ∈ xs, I64 x) (hxm : xs.length = m) (hmm : m ≤ 60) (hic : m ≤ ic) (hic2 : ic ≤ maxLen) (hL : Laid w) :
    Calls Tryd.prog 14 #[.agg #[.int .i64 n, .int .i64 k], .slice a n cap, .slice ia m ic] w fun e w' =>
      ∃ (la : Option Addr) (lc : Nat) (l : List MSym), e = .returned (.slice la m lc) ∧ Shut (SymsOf w' nb k c la l (idsOf xs) ∧ ∀ a, la = some a → ∃ b o, a = ⟨b, o, none⟩) ∧ Below w.heap.size w w' := by
  have n2 := g.n2
  have k2 := g.k2
  have e1 : (idsOf xs).length = m := by rw [idsOf_length]; omega
  refine (symbols_good n k n k nb a cap c ia ic m xs w g ⟨by omega, by omega⟩ ⟨by omega, by omega⟩ hl hcap ha hi hix hxm (by unfold maxLen; omega) hic hic2 hL).mono ?_
  rintro e w' ⟨v, rfl, l, ho, hmp, hall, hb⟩
  have hA : ∀ a c n, v = .slice (some a) n c → ∃ b o, a = ⟨b, o, none⟩ := fun a c n hv => by
    rcases ho.2 with ⟨h, _⟩ | ⟨g', cap', cur, h, _⟩
    · rw [h] at hv; cases hv
    · rw [h] at hv; cases hv; exact ⟨_, _, rfl⟩
  obtain ⟨la, lc, rfl, hla, hml, _, _⟩ := own_syms ho
  refine ⟨la, lc, l, by rw [e1], ⟨⟨hla, fun y hy => (hall y hy).1, hml.symm, hmp⟩, ?_⟩, hb⟩
  intro a ha
  subst ha
  exact hA a _ _ rfl

set_option maxHeartbeats 4000000 in
set_option maxRecDepth 8000 in
theorem order_good (n k nb m m2 mm ms : Nat) (code : Int) (a : Option Addr) (cap : Nat) (c : List UInt8) (ia : Option Addr) (ic : Nat) (xs : List Int) (ja : Option Addr) (jc : Nat) (ys : List Int) (w : World) (g : Good n k n k nb) (hl : c.length = n) (hcap : n ≤ cap) (ha : Lies w a (bs c)) (hi : Lies w ia (is xs)) (hix : ∀ x ∈ xs, I64 x) (hxm : xs.length = m) (hic : m ≤ ic) (hic2 : ic ≤ maxLen)
    (hj : Lies w ja (is ys)) (hjx : ∀ x ∈ ys, I64 x) (hym : ys.length = m2) (hjc : m2 ≤ jc) (hjc2 : jc ≤ maxLen) (hs : m + m2 ≤ 30) (hmm : m + m = mm) (hms : m + m2 = ms) (hcode : decCode n k ((idsOf xs).map (symOf nb k c)) = code) (hL : Laid w) :
    Calls Tryd.prog 5 #[.agg #[.int .i64 n, .int .i64 k], .slice a n cap, .slice ia m ic, .slice ja m2 jc] w fun e w' => e = .returned (.bool true) ∧ Below w.heap.size w w' := by
  have n2 := g.n2
  have k1 := g.k1
  have k2 := g.k2
  have hB : I64 n := ⟨by omega, by omega⟩
  have hK : I64 k := ⟨by omega, by omega⟩
  have hm30 : m ≤ 30 := by omega
  have hm230 : m2 ≤ 30 := by omega
  have hBl : Below w.heap.size w (w.alloc (.cells #[.int .i64 n, .int .i64 k] 23)) := (Below.refl _ _).alloc (Nat.le_refl _) _
  have HB : Shut ((w.alloc (.cells #[.int .i64 n, .int .i64 k] 23)).heap[w.heap.size]? = some (.cells #[.int .i64 n, .int .i64 k] 23 (0, 0))) := ⟨by rw [heap_alloc_eq, if_pos rfl]⟩
  have HQ := Shut.mk (chkP_good g)
  have hIx : (idsOf xs).length = m := by rw [idsOf_length]; omega
  have hIy : (idsOf ys).length = m2 := by rw [idsOf_length]; omega
  have hc2 : code = 8 ∨ code = 0 := by rw [← hcode]; exact code_two g hl (idsOf_le xs) (by omega)
  -- the calls
  have hS1 : ∀ W, Below w.heap.size w W → Calls Tryd.prog 14 #[.agg #[.int .i64 n, .int .i64 k], .slice a n cap, .slice ia m ic] W fun e w' =>
      ∃ (la : Option Addr) (lc : Nat) (l : List MSym), e = .returned (.slice la m lc) ∧ Shut (SymsOf w' nb k c la l (idsOf xs) ∧ ∀ a, la = some a → ∃ b o, a = ⟨b, o, none⟩) ∧ Below W.heap.size W w' := fun W hW =>
    order_symbols n k nb m a cap c ia ic xs W g hl hcap (ha.below hW (Nat.le_refl _)) (hi.below hW (Nat.le_refl _)) hix hxm (by omega) hic hic2 (hL.below hW)
  have hS2 : ∀ W, Below w.heap.size w W → Calls Tryd.prog 14 #[.agg #[.int .i64 n, .int .i64 k], .slice a n cap, .slice ja m2 jc] W fun e w' =>
      ∃ (la : Option Addr) (lc : Nat) (l : List MSym), e = .returned (.slice la m2 lc) ∧ Shut (SymsOf w' nb k c la l (idsOf ys) ∧ ∀ a, la = some a → ∃ b o, a = ⟨b, o, none⟩) ∧ Below W.heap.size W w' := fun W hW =>
    order_symbols n k nb m2 a cap c ja jc ys W g hl hcap (ha.below hW (Nat.le_refl _)) (hj.below hW (Nat.le_refl _)) hjx hym (by omega) hjc hjc2 (hL.below hW)
  have hD1 : ∀ (la : Option Addr) (lc : Nat) (l : List MSym) (ids : List Nat) (q : Nat) (W : World), Below w.heap.size w W → SymsOf W nb k c la l ids → ids.length = q → q ≤ 60 → (∀ i, i ∈ idsOf xs ↔ i ∈ ids) → Calls Tryd.prog 9 #[.agg #[.int .i64 n, .int .i64 k], .slice la q lc] W fun e w' => ∃ (a' : Option Addr) (c' z : Nat), e = .returned (.tuple #[.slice a' z c', .int .i64 code]) ∧ Below W.heap.size W w' := fun la lc l ids q W hW h hq h60 hs => by
    have hids : ∀ i ∈ ids, i ≤ 9999 := fun i hi => idsOf_le xs i ((hs i).2 hi)
    refine (order_decode lc g hl h hids hq h60 (hL.below hW)).mono ?_
    rintro e w' ⟨a', c', z, rfl, _, hb⟩
    refine ⟨a', c', z, ?_, hb⟩
    rw [code_same g hl (idsOf_le xs) hids (by omega) (by omega) hs, hcode]
  have hD2 : ∀ (la : Option Addr) (lc : Nat) (l : List MSym) (W : World), Below w.heap.size w W → SymsOf W nb k c la l (idsOf xs ++ idsOf ys) → Calls Tryd.prog 9 #[.agg #[.int .i64 n, .int .i64 k], .slice la ms lc] W fun e w' => ∃ (a' : Option Addr) (c' z : Nat) (code2 : Int), e = .returned (.tuple #[.slice a' z c', .int .i64 code2]) ∧ Shut (code = 0 → code2 = 0 ∧ z = n ∧ Lies w' a' (bs c)) ∧ Below W.heap.size W w' := fun la lc l W hW h => by
    have hids : ∀ i ∈ idsOf xs ++ idsOf ys, i ≤ 9999 := fun i hi => by
      rcases List.mem_append.1 hi with h | h
      · exact idsOf_le xs i h
      · exact idsOf_le ys i h
    have hq : (idsOf xs ++ idsOf ys).length = ms := by rw [List.length_append, hIx, hIy, hms]
    refine (order_decode lc g hl h hids hq (by omega) (hL.below hW)).mono ?_
    rintro e w' ⟨a', c', z, rfl, hr, hb⟩
    refine ⟨a', c', z, _, rfl, ⟨fun h0 => ?_⟩, hb⟩
    have h1 := code_sub g hl (idsOf_le xs) hids (by omega) (by omega) (fun i hi => List.mem_append.2 (.inl hi)) (hcode.trans h0)
    obtain ⟨r, hz, _, hrl, hrc⟩ := hr.out
    have := hrc h1.1
    subst this
    exact ⟨h1.1, by omega, hrl⟩
  have HX := Shut.mk (And.intro hl (And.intro ha (And.intro hIx hIy)))
  clear hl hcap ha hi hix hxm hic hic2 hL hj hjx hym hjc hjc2 hcode hIx hIy g
  have hsI : ¬ (30 : Int) < (m : Int) + (m2 : Int) := by omega
  go_enter Tryd.func5, Tryd.ntmps5
  go_wp2_with fail
  refine (solved_any _).mono ?_
  rintro e w1 ⟨rfl, hb1⟩
  obtain ⟨x0, x1⟩ := cells2 (blk_below HB.out hb1)
  replace HB := Shut.mk (blk_below HB.out hb1)
  replace hBl := hBl.trans (hb1.mono hBl.size)
  clear hb1
  go_wp2_with fail
  refine (cutCheck_any n k _ hB hK).mono ?_
  rintro e w2 ⟨rfl, hb2⟩
  rw [HQ.out]
  clear x0 x1
  obtain ⟨x0, x1⟩ := cells2 (blk_below HB.out hb2)
  replace HB := Shut.mk (blk_below HB.out hb2)
  replace hBl := hBl.trans (hb2.mono hBl.size)
  clear hb2
  go_wp2_with fail
  refine (hS1 _ hBl).mono ?_
  rintro e w3 ⟨la, lc, l, rfl, HS, hb3⟩
  clear hS1 x0 x1
  obtain ⟨x0, x1⟩ := cells2 (blk_below HB.out hb3)
  replace HB := Shut.mk (blk_below HB.out hb3)
  replace hBl := hBl.trans (hb3.mono hBl.size)
  clear hb3
  have hD := hD1 la lc l (idsOf xs) m w3 hBl HS.out.1 HX.out.2.2.1 (by omega) (fun i => Iff.rfl)
  go_wp2_with fail
  refine hD.mono ?_
  rintro e w4 ⟨r4, rc4, z4, rfl, hb4⟩
  clear hD x0 x1
  obtain ⟨x0, x1⟩ := cells2 (blk_below HB.out hb4)
  replace HB := Shut.mk (blk_below HB.out hb4)
  replace hBl := hBl.trans (hb4.mono hBl.size)
  replace HS := Shut.mk (And.intro (HS.out.1.below hb4) HS.out.2)
  clear hb4
  have hC := cloneS_all la lc m l w4 (by rw [HS.out.1.2.2.1, HX.out.2.2.1]) (by omega) HS.out.1.1 HS.out.2
  go_wp2_with fail
  refine hC.mono ?_
  rintro e w5 ⟨p, q, rfl, hb5, ho5⟩
  clear hC
  have hV := reverseS_own p q m _ l w5 (by rw [HS.out.1.2.2.1, HX.out.2.2.1]) (by omega) ho5
  have HO5 := Shut.mk ho5
  have HB5 := Shut.mk hb5
  clear ho5 hb5 x0 x1
  go_wp2_with fail
  refine hV.mono ?_
  rintro e w6 ⟨rfl, hl6, hg6⟩
  clear hV
  have hb6 : Below w4.heap.size w4 w6 := HB5.out.grown hg6 HB5.out.size fun g hg => (own_lt HO5.out g hg).1
  have HT : Shut (SymsOf w6 nb k c p l.reverse (idsOf xs).reverse) := ⟨hl6, fun y hy => (HS.out.1.2.1 y (List.mem_reverse.1 hy)).below hb6, by rw [List.length_reverse, List.length_reverse, HS.out.1.2.2.1], by rw [List.map_reverse, List.map_reverse, HS.out.1.2.2.2]⟩
  obtain ⟨x0, x1⟩ := cells2 (blk_below HB.out hb6)
  replace HB := Shut.mk (blk_below HB.out hb6)
  replace hBl := hBl.trans (hb6.mono hBl.size)
  replace HS := Shut.mk (And.intro (HS.out.1.below hb6) HS.out.2)
  clear hl6 hg6 hb6 HO5 HB5
  have hD := hD1 p q l.reverse (idsOf xs).reverse m w6 hBl HT.out (by rw [List.length_reverse]; exact HX.out.2.2.1) (by omega) (fun i => List.mem_reverse.symm)
  go_wp2_with fail
  refine hD.mono ?_
  rintro e w7 ⟨r7, rc7, z7, rfl, hb7⟩
  clear hD x0 x1 HT
  obtain ⟨x0, x1⟩ := cells2 (blk_below HB.out hb7)
  replace HB := Shut.mk (blk_below HB.out hb7)
  replace hBl := hBl.trans (hb7.mono hBl.size)
  replace HS := Shut.mk (And.intro (HS.out.1.below hb7) HS.out.2)
  clear hb7
  have hne : (code != code) = false := by simp
  have hLl : l.length = m := by rw [HS.out.1.2.2.1, HX.out.2.2.1]
  have hDe : ∀ (ga : Option Addr) (gc : Nat) (W : World), Below w7.heap.size w7 W → Shut (Lies W ga (symCells (l ++ l))) → Calls Tryd.prog 9 #[.agg #[.int .i64 n, .int .i64 k], .slice ga mm gc] W fun e w' => ∃ (a' : Option Addr) (c' z : Nat), e = .returned (.tuple #[.slice a' z c', .int .i64 code]) ∧ Below W.heap.size W w' := fun ga gc W hW hg =>
    hD1 ga gc (l ++ l) (idsOf xs ++ idsOf xs) mm W (hBl.trans (hW.mono hBl.size)) ((HS.out.1.below hW).app (HS.out.1.below hW) hg.out) (by rw [List.length_append, HX.out.2.2.1, hmm]) (by omega) (fun i => by simp)
  have D1 : Shut (Below w7.heap.size w7 (w7.drew.alloc (.cells #[.slice la m lc, .slice la m lc] 24))) := ⟨((Below.refl _ _).drew).alloc (Nat.le_refl _) _⟩
  have D2 : Shut (Below w7.heap.size w7 ((w7.alloc (.cells #[.slice la m lc, .slice la m lc] 24)).drew)) := ⟨((Below.refl _ _).alloc (Nat.le_refl _) _).drew⟩
  have hC1 := concat2S w7.heap.size m m mm lc lc la la l l _ ((heap_alloc_eq w7.drew _ _).trans (if_pos rfl)) (HS.out.1.below D1.out).1 (HS.out.1.below D1.out).1 hLl hLl hmm (by omega)
  have hC2 := concat2S w7.heap.size m m mm lc lc la la l l _ (by show (w7.alloc _).heap[w7.heap.size]? = _; rw [heap_alloc_eq, if_pos rfl]) (HS.out.1.below D2.out).1 (HS.out.1.below D2.out).1 hLl hLl hmm (by omega)
  have v0 : w7.drew.cell? ⟨w.heap.size, 0, none⟩ = some (.int .i64 n) := x0
  have v1 : w7.drew.cell? ⟨w.heap.size, 1, none⟩ = some (.int .i64 k) := x1
  clear hD1
  go_upto_region 10 with fail
  go_region_held3 (fun w' => w'.cell? ⟨w.heap.size, 0, none⟩ = some (.int .i64 n) ∧ w'.cell? ⟨w.heap.size, 1, none⟩ = some (.int .i64 k)) (first | exact ⟨by assumption, by assumption⟩ | exact ⟨cellA' (by assumption) _, cellA' (by assumption) _⟩) (first | (go_at_call 19; (first | refine hC1.mono ?_ | refine hC2.mono ?_); rintro e w8 ⟨ga, gc, rfl, hg8, hb8⟩; have v2 := cellC (b := w.heap.size) (o := 0) (v := .int .i64 n) (by first | assumption | exact cellA' (by assumption) _) hb8; have v3 := cellC (b := w.heap.size) (o := 1) (v := .int .i64 k) (by first | assumption | exact cellA' (by assumption) _) hb8; have h78 : Below w7.heap.size w7 w8 := (by first | exact D1.out.trans (hb8.mono D1.out.size) | exact D2.out.trans (hb8.mono D2.out.size))) | (go_at_call 9; refine (hDe ga gc w8 h78 hg8).mono ?_; rintro e w9 ⟨r9, rc9, z9, rfl, hb9⟩; have v4 := cellC (b := w.heap.size) (o := 0) (v := .int .i64 n) v2 hb9; have v5 := cellC (b := w.heap.size) (o := 1) (v := .int .i64 k) v3 hb9; have h79 := h78.trans (hb9.mono h78.size)))
  all_goals
    replace HS := Shut.mk (And.intro (HS.out.1.below h79) HS.out.2)
    replace hBl := hBl.trans (h79.mono hBl.size)
    clear D1 D2 hC1 hC2 hDe h79 h78 hb9 hb8 hg8 v0 v1 v2 v3 x0 x1
    clear HB
    have hDf : ∀ (ga lb : Option Addr) (l2 : List MSym) (gc : Nat) (w10 W : World), Below w9.heap.size w9 w10 → SymsOf w10 nb k c lb l2 (idsOf ys) → Below w10.heap.size w10 W → Shut (Lies W ga (symCells (l ++ l2))) → Calls Tryd.prog 9 #[.agg #[.int .i64 n, .int .i64 k], .slice ga ms gc] W fun e w' => ∃ (a' : Option Addr) (c' z : Nat) (code2 : Int), e = .returned (.tuple #[.slice a' z c', .int .i64 code2]) ∧ Shut (code = 0 → code2 = 0 ∧ z = n ∧ Lies w' a' (bs c)) ∧ Below W.heap.size W w' := fun ga lb l2 gc w10 W hW hs hW2 hg =>
      hD2 ga gc (l ++ l2) W ((hBl.trans (hW.mono hBl.size)).trans (hW2.mono (hBl.trans (hW.mono hBl.size)).size)) (((HS.out.1.below hW).below hW2).app (hs.below hW2) hg.out)
    have u0 : w9.drew.cell? ⟨w.heap.size, 0, none⟩ = some (.int .i64 n) := v4
    have u1 : w9.drew.cell? ⟨w.heap.size, 1, none⟩ = some (.int .i64 k) := v5
    have hE0 : Shut (Below w9.heap.size w9 w9) := ⟨Below.refl _ _⟩
    have hE1 : Shut (Below w9.heap.size w9 w9.drew) := ⟨(Below.refl _ _).drew⟩
    clear hD2
    go_upto_region 13 with fail
    go_region_held3 (fun w' => w'.cell? ⟨w.heap.size, 0, none⟩ = some (.int .i64 n) ∧ w'.cell? ⟨w.heap.size, 1, none⟩ = some (.int .i64 k)) (first | exact ⟨by assumption, by assumption⟩ | exact ⟨cellA' (by assumption) _, cellA' (by assumption) _⟩) (first | (go_at_call 14; (first | refine (hS2 w9 hBl).mono ?_ | refine (hS2 w9.drew hBl.drew).mono ?_); rintro e w10 ⟨lb, lbc, l2, rfl, hs10, hb10⟩; have v6 := cellC (b := w.heap.size) (o := 0) (v := .int .i64 n) (by first | with_reducible exact v4 | with_reducible exact u0) hb10; have v7 := cellC (b := w.heap.size) (o := 1) (v := .int .i64 k) (by first | with_reducible exact v5 | with_reducible exact u1) hb10; have h910 : Below w9.heap.size w9 w10 := (by first | exact hb10 | exact hE1.out.trans (hb10.mono hE1.out.size)); have v6d : w10.drew.cell? ⟨w.heap.size, 0, none⟩ = some (.int .i64 n) := v6; have v7d : w10.drew.cell? ⟨w.heap.size, 1, none⟩ = some (.int .i64 k) := v7) | (go_at_call 19; have hq : ∀ W, Below w10.heap.size w10 W → W.heap[w10.heap.size]? = some (.cells #[.slice la m lc, .slice lb m2 lbc] 24 (0, 0)) → Calls Tryd.prog 19 #[.slice (some ⟨w10.heap.size, 0, none⟩) 2 2] W fun e w' => ∃ (ga : Option Addr) (gc : Nat), e = .returned (.slice ga ms gc) ∧ Shut (Lies w' ga (symCells (l ++ l2))) ∧ Below w10.heap.size w10 w' ∧ Below W.heap.size W w' := (fun W hW hk => (concat2S w10.heap.size m m2 ms lc lbc la lb l l2 W hk ((HS.out.1.below h910).below hW).1 (hs10.out.1.below hW).1 hLl (by rw [hs10.out.1.2.2.1, HX.out.2.2.2]) hms (by omega)).mono (by rintro e w' ⟨ga, gc, h1, h2, h3⟩; exact ⟨ga, gc, h1, h2, hW.trans (h3.mono hW.size), h3⟩)); (first | refine (hq (w10.alloc _) ((Below.refl _ _).alloc (Nat.le_refl _) _) ((heap_alloc_eq w10 _ _).trans (if_pos rfl))).mono ?_ | refine (hq (w10.drew.alloc _) ((Below.refl _ _).drew.alloc (Nat.le_refl _) _) ((heap_alloc_eq w10.drew _ _).trans (if_pos rfl))).mono ?_ | refine (hq ((w10.alloc _).drew) (((Below.refl _ _).alloc (Nat.le_refl _) _).drew) ((heap_alloc_eq w10 _ _).trans (if_pos rfl))).mono ?_); clear hq; rintro e w11 ⟨ga2, gc2, rfl, hg11, h1011, hb11⟩; have v8 := cellC (b := w.heap.size) (o := 0) (v := .int .i64 n) v6 h1011; have v9 := cellC (b := w.heap.size) (o := 1) (v := .int .i64 k) v7 h1011) | (go_at_call 9; refine (hDf ga2 lb l2 gc2 w10 w11 h910 hs10.out.1 h1011 hg11).mono ?_; rintro e w12 ⟨r12, rc12, z12, code2, rfl, hr12, hb12⟩; have vA := cellC (b := w.heap.size) (o := 0) (v := .int .i64 n) v8 hb12; have vB := cellC (b := w.heap.size) (o := 1) (v := .int .i64 k) v9 hb12))
    all_goals
      have h1012 := h1011.trans (hb12.mono h1011.size)
      have h912 := h910.trans (h1012.mono h910.size)
      have hB12 := hBl.trans (h912.mono hBl.size)
      rcases hc2 with rfl | rfl
      · go_wp2
        go_ret
        exact ⟨rfl, hB12⟩
      · obtain ⟨rfl, rfl, hl12⟩ := hr12.out rfl
        have hE := equalBytes (w := w12) r12 a rc12 cap c c (by rw [HX.out.1]; unfold maxLen; omega) (by rw [HX.out.1]; unfold maxLen; omega) hl12 (HX.out.2.1.below hB12 (Nat.le_refl _))
        rw [HX.out.1, decide_eq_true rfl] at hE
        clear hl12 hr12 hs10
        go_wp2_with fail
        refine hE.mono ?_
        rintro e w13 ⟨rfl, nn, rfl⟩
        have h13 := hB12.trans (bdn w12 nn w.heap.size)
        clear hE
        go_wp2
        go_ret
        exact ⟨rfl, h13⟩

theorem W_solveOrder (B K : Int) (a : Option Addr) (cap : Nat) (c : List UInt8) (ia : Option Addr) (ic : Nat) (xs : List Int) (ja : Option Addr) (jc : Nat) (ys : List Int) (w : World) (hB : I64 B) (hK : I64 K) (hm : c.length ≤ maxLen) (hcap : c.length ≤ cap) (ha : Lies w a (bs c)) (hi : Lies w ia (xs.map (Value.int .i64))) (hix : ∀ x ∈ xs, I64 x) (hic : xs.length ≤ ic) (hic2 : ic ≤ maxLen) (hsx : xs.length ≤ 2 ^ 60) (hj : Lies w ja (ys.map (Value.int .i64))) (hjx : ∀ x ∈ ys, I64 x) (hjc : ys.length ≤ jc) (hjc2 : jc ≤ maxLen) (hsy : ys.length ≤ 2 ^ 60) (hL : Laid w) :
    Calls Tryd.prog 5 #[.agg #[.int .i64 B, .int .i64 K], .slice a c.length cap, .slice ia xs.length ic, .slice ja ys.length jc] w fun e w' => e = .returned (.bool true) ∧ Below w.heap.size w w' := by
  by_cases h0 : chkP B K = 0
  · by_cases hn : (c.length : Int) = B
    · by_cases hs : xs.length + ys.length ≤ 30
      · obtain ⟨n, k, nb, g⟩ := good_of h0
        have hcn : c.length = n := by have := g.eB; omega
        obtain rfl := g.eB
        obtain rfl := g.eK
        have h := order_good n k nb xs.length ys.length _ _ _ a cap c ia ic xs ja jc ys w g hcn (by omega) ha hi hix rfl hic hic2 hj hjx rfl hjc hjc2 hs rfl rfl rfl hL
        rw [← hcn] at h ⊢
        exact h
      · exact order_out B K c.length xs.length ys.length a cap ia ja ic jc _ w hB hK hm hsx hsy rfl (.inr (.inr (by omega)))
    · exact order_out B K c.length xs.length ys.length a cap ia ja ic jc _ w hB hK hm hsx hsy rfl (.inr (.inl hn))
  · exact order_out B K c.length xs.length ys.length a cap ia ja ic jc _ w hB hK hm hsx hsy rfl (.inl h0)

end Go.Proofs.YtkiejflgphjfjacDoor

/-
  What came in, opened: byte slices and slices of byte slices, whatever their readings are. Nothing of any program.
-/
namespace Go.Proofs.YtkiejflgphjfjacDoor
open Go.ChangeShapes Go.WideShapes Go.ChangeAt Go.RowKit
set_option linter.unusedVariables false
set_option linter.unusedSimpArgs false

section
variable {H : Type} {enc : TypeId × Value → H} {P : Program} {w : World} {held : Bool}

theorem u8_of_wf {n : Int} (h : (Lit.int .u8 n).wf = true) : 0 ≤ n ∧ n < 256 := by
  have : 0 ≤ n ∧ n ≤ 255 := by simpa [Lit.wf, IntKind.min, IntKind.max, IntKind.signed, IntKind.bits] using h
  omega

/-- an address of cells has no spot of its own -/
theorem lies_addr {a : Addr} {k : Nat} {u u0 : Value} (h0 : w.cell? (a.add 0) = some u0) (hk : w.cell? (a.add k) = some u) : ∃ b off, some a = some (⟨b, off, none⟩ : Addr) ∧ w.cell? ⟨b, off + k, none⟩ = some u := by
  obtain ⟨b, off, spot⟩ := a
  have hspot : spot = none := by simpa [Addr.add] using World.cell?_spot h0
  subst hspot
  exact ⟨b, off, rfl, by simpa [Addr.add_lit] using hk⟩

theorem open_bytes {t e : TypeId} {fuel : Nat} {v : Value} {x : DataW H × List MemPlace} (ht : P.underlying t = some (.slice e)) (he : P.underlying e = some (.int .u8)) (hc : P.cellsOf e = 1)
    (h : DataW.trod enc P w 0 (fun _ => true) held fuel t [v] = some x) : ∃ a cap l, v = .slice a l.length cap ∧ Lies w a (bs l) ∧ l.length ≤ maxLen := by
  rcases open_ints ht he hc h with ⟨hcs, _⟩ | ⟨a, len, cap, zs, hcs, _, hl, hm, hz, _, hcell, hwz⟩
  · simp at hcs
    subst hcs
    exact ⟨none, 0, [], rfl, Lies.nil _ _, by simp⟩
  · simp at hcs hz
    subst hcs
    refine ⟨some a, cap, (zs.take len).map fun z => UInt8.ofNat z.toNat, ?_, ?_, ?_⟩
    · simp; omega
    · intro k u hu
      have hk : k < len := by
        obtain ⟨hk, _⟩ := List.getElem?_eq_some_iff.1 hu
        simp [bs] at hk
        omega
      have hkz : k < zs.length := by omega
      have hcl := hcell k hkz
      have hwf := u8_of_wf (hwz zs[k] (by simp))
      have hu' : u = .int .u8 (zs[k]) := by
        simp [bs, hk, hkz] at hu
        rw [← hu]
        congr 1
        omega
      subst hu'
      have e2 : zs.getD k 0 = zs[k] := by simp [List.getD, hkz]
      rw [e2] at hcl
      exact lies_addr (hcell 0 (by omega)) hcl
    · simp; omega

theorem open_blocks {t e e8 : TypeId} {fuel : Nat} {v : Value} {d : DataW H} {ps : List MemPlace} (ht : P.underlying t = some (.slice e)) (hte : P.underlying e = some (.slice e8)) (he : P.underlying e8 = some (.int .u8)) (hc : P.cellsOf e = 1) (hc8 : P.cellsOf e8 = 1)
    (h : DataW.trod enc P w 0 (fun _ => true) held fuel t [v] = some (d, ps)) :
    ∃ a cap bl, v = .slice a bl.length cap ∧ Lies w a (bl.map Blk.val) ∧ AllIn w bl ∧ bl.length ≤ maxLen ∧ ((d = .nil ∧ bl = []) ∨ ∃ elems sp, d = .slice elems sp ∧ elems.length = bl.length) := by
  rcases Go.Deep.open_slice1 ht hc h with ⟨hcs, hx⟩ | ⟨a, len, cap, m, n, V, D, Pl, hcs, _, hl, hm, hmm, hx, hcell⟩
  · simp at hcs hx
    subst hcs
    exact ⟨none, 0, [], rfl, Lies.nil _ _, (fun b hb => by simp at hb), by simp, .inl ⟨hx.1, rfl⟩⟩
  · simp at hcs hx hmm
    subst hcs hmm
    have hb : ∀ i, i < m → ∃ b : Blk, V i = b.val ∧ Lies w b.a (bs b.l) ∧ b.l.length ≤ maxLen := fun i hi => by
      obtain ⟨a', cap', l, e1, e2, e3⟩ := open_bytes hte he hc8 (hcell i hi).2
      exact ⟨⟨a', cap', l⟩, e1, e2, e3⟩
    have : Inhabited Blk := ⟨⟨none, 0, []⟩⟩
    obtain ⟨B, hB⟩ := Go.Deep.choose_lt hb
    refine ⟨some a, m, (List.range len).map B, by simp, ?_, ?_, by simp; omega, .inr ⟨_, _, hx.1, by simp⟩⟩
    · intro k u hu
      have hk : k < len := by
        obtain ⟨hk, _⟩ := List.getElem?_eq_some_iff.1 hu
        simpa using hk
      have hu' : u = V k := by
        simp [hk] at hu
        rw [← hu, (hB k (by omega)).1]
      subst hu'
      exact lies_addr (hcell 0 (by omega)).1 (hcell k (by omega)).1
    · intro b hb
      obtain ⟨i, hi, rfl⟩ := List.mem_map.1 hb
      exact (hB i (by simp at hi; omega)).2
end
end Go.Proofs.YtkiejflgphjfjacDoor

/-
  What came in, opened, with what it has room for: byte slices, slices of byte slices, a struct of two ints, whatever their readings are. Nothing of any program.
-/
namespace Go.Proofs.YtkiejflgphjfjacDoor
open Go.ChangeShapes Go.WideShapes Go.ChangeAt Go.RowKit
set_option linter.unusedVariables false
set_option linter.unusedSimpArgs false

section
variable {H : Type} {enc : TypeId × Value → H} {P : Program} {w : World} {held : Bool}

/-- how many elements a reading has -/
def dlen : DataW H → Nat
  | .slice el _ => el.length
  | _ => 0

theorem i64_of_wf {n : Int} (h : (Lit.int .i64 n).wf = true) : I64 n := by
  have : -9223372036854775808 ≤ n ∧ n ≤ 9223372036854775807 := by simpa [Lit.wf, IntKind.min, IntKind.max, IntKind.signed, IntKind.bits] using h
  exact this

theorem open_bytes2 {t e : TypeId} {fuel : Nat} {v : Value} {x : DataW H × List MemPlace} (ht : P.underlying t = some (.slice e)) (he : P.underlying e = some (.int .u8)) (hc : P.cellsOf e = 1)
    (h : DataW.trod enc P w 0 (fun _ => true) held fuel t [v] = some x) : ∃ a cap l, v = .slice a l.length cap ∧ Lies w a (bs l) ∧ l.length ≤ maxLen ∧ l.length ≤ cap ∧ dlen x.1 = l.length := by
  rcases open_ints ht he hc h with ⟨hcs, rfl⟩ | ⟨a, len, cap, zs, hcs, _, hl, hm, hz, rfl, hcell, hwz⟩
  · simp at hcs
    subst hcs
    exact ⟨none, 0, [], rfl, Lies.nil _ _, by simp, by simp, rfl⟩
  · simp at hcs hz
    subst hcs
    refine ⟨some a, cap, (zs.take len).map fun z => UInt8.ofNat z.toNat, ?_, ?_, ?_, ?_, ?_⟩
    · simp; omega
    · intro k u hu
      have hk : k < len := by
        obtain ⟨hk, _⟩ := List.getElem?_eq_some_iff.1 hu
        simp [bs] at hk
        omega
      have hkz : k < zs.length := by omega
      have hcl := hcell k hkz
      have hwf := u8_of_wf (hwz zs[k] (by simp))
      have hu' : u = .int .u8 (zs[k]) := by
        simp [bs, hk, hkz] at hu
        rw [← hu]
        congr 1
        omega
      subst hu'
      have e2 : zs.getD k 0 = zs[k] := by simp [List.getD, hkz]
      rw [e2] at hcl
      exact lies_addr (hcell 0 (by omega)) hcl
    · simp; omega
    · simp; omega
    · simp [dlen, lits]

theorem open_blocks2 {t e e8 : TypeId} {fuel : Nat} {v : Value} {d : DataW H} {ps : List MemPlace} (ht : P.underlying t = some (.slice e)) (hte : P.underlying e = some (.slice e8)) (he : P.underlying e8 = some (.int .u8)) (hc : P.cellsOf e = 1) (hc8 : P.cellsOf e8 = 1)
    (h : DataW.trod enc P w 0 (fun _ => true) held fuel t [v] = some (d, ps)) :
    ∃ a cap bl, v = .slice a bl.length cap ∧ Lies w a (bl.map Blk.val) ∧ AllIn w bl ∧ bl.length ≤ maxLen ∧ Caps bl ∧ ((d = .nil ∧ bl = []) ∨ ∃ elems sp, d = .slice elems sp ∧ elems.map dlen = bl.map fun b => b.l.length) := by
  rcases Go.Deep.open_slice1 ht hc h with ⟨hcs, hx⟩ | ⟨a, len, cap, m, n, V, D, Pl, hcs, _, hl, hm, hmm, hx, hcell⟩
  · simp at hcs hx
    subst hcs
    exact ⟨none, 0, [], rfl, Lies.nil _ _, (fun b hb => by simp at hb), by simp, (fun b hb => by simp at hb), .inl ⟨hx.1, rfl⟩⟩
  · simp at hcs hx hmm
    subst hcs hmm
    have hb : ∀ i, i < m → ∃ b : Blk, V i = b.val ∧ Lies w b.a (bs b.l) ∧ b.l.length ≤ maxLen ∧ b.l.length ≤ b.cap ∧ dlen (D i) = b.l.length := fun i hi => by
      obtain ⟨a', cap', l, e1, e2, e3, e4, e5⟩ := open_bytes2 hte he hc8 (hcell i hi).2
      exact ⟨⟨a', cap', l⟩, e1, e2, e3, e4, e5⟩
    have : Inhabited Blk := ⟨⟨none, 0, []⟩⟩
    obtain ⟨B, hB⟩ := Go.Deep.choose_lt hb
    refine ⟨some a, m, (List.range len).map B, by simp, ?_, ?_, by simp; omega, ?_, .inr ⟨_, _, hx.1, ?_⟩⟩
    · intro k u hu
      have hk : k < len := by
        obtain ⟨hk, _⟩ := List.getElem?_eq_some_iff.1 hu
        simpa using hk
      have hu' : u = V k := by
        simp [hk] at hu
        rw [← hu, (hB k (by omega)).1]
      subst hu'
      exact lies_addr (hcell 0 (by omega)).1 (hcell k (by omega)).1
    · intro b hb
      obtain ⟨i, hi, rfl⟩ := List.mem_map.1 hb
      have := hB i (by simp at hi; omega)
      exact ⟨this.2.1, this.2.2.1⟩
    · intro b hb
      obtain ⟨i, hi, rfl⟩ := List.mem_map.1 hb
      exact (hB i (by simp at hi; omega)).2.2.2.1
    · rw [List.map_map, List.map_map]
      apply List.map_congr_left
      intro i hi
      exact (hB i (by simp at hi; omega)).2.2.2.2

theorem open_plan {r : Reach} {b0 : Nat} {t : TypeId} {f0 f1 : Field} {v : Value} {d : DataW H} {p : List MemPlace} (hs : P.underlying t = some (.struct #[f0, f1])) (hone : Go.Deep.oneCellFields P #[f0, f1] = true) (hC : P.cellsOf t = 2)
    (h0 : P.underlying f0.type = some (.int .i64)) (h1 : P.underlying f1.type = some (.int .i64))
    (hv : Value.okWide P w r b0 t v) (h : DataW.Trod enc P w 0 (fun _ => true) held t v d p) : ∃ B K : Int, v = .agg #[.int .i64 B, .int .i64 K] ∧ I64 B ∧ I64 K := by
  obtain ⟨c0, c1, y0, y1, m, rfl, rfl, rfl, hy0, hy1⟩ := Go.Joins.open_agg2 hs hone hC hv h
  obtain ⟨a, e0, rfl, wa⟩ := DataW.trod_int h0 hy0
  obtain ⟨b, e1, rfl, wb⟩ := DataW.trod_int h1 hy1
  simp at e0 e1
  subst e0 e1
  exact ⟨a, b, rfl, i64_of_wf wa, i64_of_wf wb⟩
end
end Go.Proofs.YtkiejflgphjfjacDoor

/-
  Slices of ints and of symbols that came in, opened, with what they have room for. Nothing of any program.
-/
namespace Go.Proofs.YtkiejflgphjfjacDoor
open Go.ChangeShapes Go.WideShapes Go.ChangeAt Go.RowKit
set_option linter.unusedVariables false
set_option linter.unusedSimpArgs false

section
variable {H : Type} {enc : TypeId × Value → H} {P : Program} {w : World} {held : Bool}

theorem open_ints2 {t e : TypeId} {fuel : Nat} {v : Value} {x : DataW H × List MemPlace} (ht : P.underlying t = some (.slice e)) (he : P.underlying e = some (.int .i64)) (hc : P.cellsOf e = 1)
    (h : DataW.trod enc P w 0 (fun _ => true) held fuel t [v] = some x) : ∃ (a : Option Addr) (cap : Nat) (l : List Int), v = .slice a l.length cap ∧ Lies w a (l.map (Value.int .i64)) ∧ (∀ y ∈ l, I64 y) ∧ l.length ≤ cap ∧ cap ≤ maxLen := by
  rcases open_ints ht he hc h with ⟨hcs, _⟩ | ⟨a, len, cap, zs, hcs, _, hl, hm, hz, _, hcell, hwz⟩
  · simp at hcs
    subst hcs
    exact ⟨none, 0, [], rfl, Lies.nil _ _, (fun y hy => by cases hy), by simp, by simp [maxLen]⟩
  · simp at hcs hz
    subst hcs
    refine ⟨some a, cap, zs.take len, by simp; omega, ?_, fun y hy => i64_of_wf (hwz y (List.mem_of_mem_take hy)), by simp; omega, hm⟩
    intro k u hu
    have hk : k < len := by
      obtain ⟨hk, _⟩ := List.getElem?_eq_some_iff.1 hu
      simp at hk
      omega
    have hkz : k < zs.length := by omega
    have hcl := hcell k hkz
    have hu' : u = .int .i64 (zs[k]) := by
      simp [hk, hkz] at hu
      exact hu.symm
    subst hu'
    have e2 : zs.getD k 0 = zs[k] := by simp [List.getD, hkz]
    rw [e2] at hcl
    exact lies_addr (hcell 0 (by omega)) hcl

theorem cells_two' {base : Nat} {a : Addr} {cs : List Value} (h : w.cells? base a 2 = some cs) : ∃ c0 c1, cs = [c0, c1] ∧ w.cell? (a.add 0) = some c0 ∧ w.cell? (a.add 1) = some c1 := by
  obtain ⟨_, hlen, hc⟩ := World.cells?_some h
  match cs, hlen, hc with
  | [c0, c1], _, hc => exact ⟨c0, c1, rfl, hc 0 (by omega), hc 1 (by omega)⟩

theorem open_symbols {t e e8 : TypeId} {f0 f1 : Field} {fuel : Nat} {v : Value} {x : DataW H × List MemPlace} (ht : P.underlying t = some (.slice e)) (hC : P.cellsOf e = 2) (hs : P.underlying e = some (.struct #[f0, f1])) (hone : Go.Deep.oneCellFields P #[f0, f1] = true)
    (h0 : P.underlying f0.type = some (.int .i64)) (h1 : P.underlying f1.type = some (.slice e8)) (he : P.underlying e8 = some (.int .u8)) (hc8 : P.cellsOf e8 = 1)
    (h : DataW.trod enc P w 0 (fun _ => true) held fuel t [v] = some x) : ∃ (a : Option Addr) (cap : Nat) (l : List MSym), v = .slice a l.length cap ∧ Lies w a (symCells l) ∧ (∀ y ∈ l, SymIn w y) ∧ l.length ≤ maxLen := by
  rcases Go.Deep.open_slice ht h with ⟨hcs, hx⟩ | ⟨a, len, cap, m, n, D, Pl, hcs, _, hl, hm, hmm, hx, hcell⟩
  · simp at hcs
    subst hcs
    exact ⟨none, 0, [], rfl, Lies.nil _ _, (fun r hr => by cases hr), by simp⟩
  · simp at hcs hmm
    subst hcs hmm
    rw [hC] at hcell
    have hb' : ∀ i, i < m → ∃ y : MSym, w.cell? ((a.add (i * 2)).add 0) = some (.int .i64 y.id) ∧ w.cell? ((a.add (i * 2)).add 1) = some y.dv ∧ SymIn w y := fun i hi => by
      obtain ⟨cs', e1, e2⟩ := hcell i hi
      obtain ⟨c0, c1, rfl, k0, k1⟩ := cells_two' e1
      obtain ⟨y0, y1, n', _, _, q0, q1⟩ := trod_struct2 hs e2
      obtain ⟨o0, u0⟩ := Go.Deep.hone_of hone 0 f0 rfl
      obtain ⟨o1, u1⟩ := Go.Deep.hone_of hone 1 f1 rfl
      rw [o0, u0] at q0
      rw [o1, u1] at q1
      obtain ⟨id, e3, _, _⟩ := DataW.trod_int h0 q0
      obtain ⟨b, cb, d, g1, g2, g3, g4, _⟩ := open_bytes2 h1 he hc8 (v := c1) (by simpa using q1)
      simp at e3
      subst e3 g1
      exact ⟨⟨id, b, cb, d⟩, k0, k1, g2, g3⟩
    have : Inhabited MSym := ⟨⟨0, none, 0, []⟩⟩
    obtain ⟨B, hB⟩ := Go.Deep.choose_lt hb'
    refine ⟨some a, m, (List.range len).map B, by simp, ?_, ?_, by simp; omega⟩
    · intro k u hu
      have hk : k < 2 * len := by
        obtain ⟨hk, _⟩ := List.getElem?_eq_some_iff.1 hu
        rw [symCells_length] at hk
        simpa using hk
      obtain ⟨g0, g1⟩ := symCells_get (l := (List.range len).map B) (j := k / 2) (by simp; omega)
      simp only [List.getElem_map, List.getElem_range] at g0 g1
      obtain ⟨z0, _, _⟩ := hB 0 (by omega)
      obtain ⟨k0, k1, _⟩ := hB (k / 2) (by omega)
      rw [Go.Deep.add_add] at z0 k0 k1
      rcases Nat.mod_two_eq_zero_or_one k with e | e
      · rw [show 2 * (k / 2) = k by omega, hu] at g0
        rw [show k / 2 * 2 + 0 = k by omega, ← g0] at k0
        exact lies_addr (by simpa using z0) k0
      · rw [show 2 * (k / 2) + 1 = k by omega, hu] at g1
        rw [show k / 2 * 2 + 1 = k by omega, ← g1] at k1
        exact lies_addr (by simpa using z0) k1
    · intro r hr
      obtain ⟨i, hi, rfl⟩ := List.mem_map.1 hr
      exact (hB i (by simp at hi; omega)).2.2
end
end Go.Proofs.YtkiejflgphjfjacDoor

/-
  Slices of ints that came in, opened, with their size: the form's own bound on each slice. Nothing of any program.
-/
namespace Go.Proofs.YtkiejflgphjfjacDoor
open Go.ChangeShapes Go.WideShapes Go.ChangeAt Go.RowKit
set_option linter.unusedVariables false
set_option linter.unusedSimpArgs false

section
variable {H : Type} {enc : TypeId × Value → H} {P : Program} {w : World} {held : Bool}

/-- how long a slice is that came in -/
theorem open_ints_len {t e : TypeId} {fuel : Nat} {a : Option Addr} {n cap : Nat} {d : DataW H} {p : List MemPlace} (ht : P.underlying t = some (.slice e)) (he : P.underlying e = some (.int .i64)) (hc : P.cellsOf e = 1)
    (h : DataW.trod enc P w 0 (fun _ => true) held fuel t [.slice a n cap] = some (d, p)) : n = 0 ∨ ∃ elems spare : List (DataW H), d = .slice elems spare ∧ elems.length = n := by
  rcases open_ints ht he hc h with ⟨hcs, _⟩ | ⟨a, len, cap, zs, hcs, _, hl, hm, hz, hx, hcell, hwz⟩
  · simp at hcs
    exact .inl hcs.2.1
  · simp at hcs hz
    obtain ⟨_, rfl, rfl⟩ := hcs
    injection hx with hx _
    refine .inr ⟨_, _, hx, ?_⟩
    simp [lits]
    omega
end

end Go.Proofs.YtkiejflgphjfjacDoor

/-
  A symbol that came in, opened: an int and a byte slice. Nothing of any program.
-/
namespace Go.Proofs.YtkiejflgphjfjacDoor
open Go.ChangeShapes Go.WideShapes Go.ChangeAt Go.RowKit
set_option linter.unusedVariables false

section
variable {H : Type} {enc : TypeId × Value → H} {P : Program} {w : World} {held : Bool}

theorem open_symbol {r : Reach} {b0 : Nat} {t e8 : TypeId} {f0 f1 : Field} {v : Value} {d : DataW H} {p : List MemPlace} (hs : P.underlying t = some (.struct #[f0, f1])) (hone : Go.Deep.oneCellFields P #[f0, f1] = true) (hC : P.cellsOf t = 2)
    (h0 : P.underlying f0.type = some (.int .i64)) (h1 : P.underlying f1.type = some (.slice e8)) (he : P.underlying e8 = some (.int .u8)) (hc8 : P.cellsOf e8 = 1)
    (hv : Value.okWide P w r b0 t v) (h : DataW.Trod enc P w 0 (fun _ => true) held t v d p) : ∃ (id : Int) (a : Option Addr) (cap : Nat) (l : List UInt8), v = .agg #[.int .i64 id, .slice a l.length cap] ∧ I64 id ∧ Lies w a (bs l) ∧ l.length ≤ maxLen ∧ l.length ≤ cap := by
  obtain ⟨c0, c1, y0, y1, m, rfl, rfl, rfl, hy0, hy1⟩ := Go.Joins.open_agg2 hs hone hC hv h
  obtain ⟨a, e0, rfl, wa⟩ := DataW.trod_int h0 hy0
  obtain ⟨a', cap, l, rfl, h2, h3, h4, _⟩ := open_bytes2 h1 he hc8 hy1
  simp at e0
  subst e0
  exact ⟨a, a', cap, l, rfl, i64_of_wf wa, h2, h3, h4⟩
end
end Go.Proofs.YtkiejflgphjfjacDoor

/-
  What the rows' condition on the listed variable gives the walks, and that the heap of the door's own run meets it.
-/
namespace Go.Proofs.YtkiejflgphjfjacDoor
open Go.ChangeShapes Go.WideShapes Go.ChangeAt Go.RowKit
set_option linter.unusedVariables false

theorem own : ownKnob Tryd.prog.godebug = none := by kernel_rfl
theorem gLimits : Tryd.prog.globalNamed "bottlepost/pick.limits" = some 0 := by kernel_rfl
theorem tLimits : (Tryd.prog.globals[0]?).map (·.type) = some 106 := by kernel_rfl
theorem cInt : Tryd.prog.cellsOf 3 = 1 := by kernel_rfl
theorem cArr : Tryd.prog.cellsOf 106 = 5 := by kernel_rfl

/-- what the rows list -/
def listed : List (String × DataW Unit) := [("bottlepost/pick.limits", Rows.laid_bottlepost_pick_limits)]

/-- The door's own heap meets the condition. -/
theorem door_met (os : Os) (args : Array Value) : laidMetH Tryd.prog listed ((World.doorLaid Tryd.prog 400 os).forCall (fun _ _ => 0) ⟨#[], args, []⟩).memory :=
  laidMetH_of_parts3 (fuel := 8) (laidMet_of_run' 8 (by kernel_rfl) (by kernel_rfl)) (by kernel_rfl) (by kernel_rfl)

/-- What the condition gives the walks. -/
theorem laid_of {W : World} (h : laidMetH Tryd.prog listed W) : Laid W := by
  rw [MakeChecks.laidMetH_plain _ _ _ (by kernel_rfl)] at h
  have hT := Lib.tabIs_of_head (k := .i64) (zs := [8192, 40960, 51882, 57344, 60621]) gLimits tLimits Tryd.underlying106 Tryd.underlying3 cInt cArr h
  refine Lies.mk fun k hk => ?_
  have hk5 : k < 5 := hk
  have := hT.cell gLimits k hk5
  rw [Nat.zero_add, this]
  match k, hk5 with
  | 0, _ => rfl
  | 1, _ => rfl
  | 2, _ => rfl
  | 3, _ => rfl
  | 4, _ => rfl

end Go.Proofs.YtkiejflgphjfjacDoor
