import Derived.Test.YtkiejflgphjfjacDoorPart29
import Derived.Test.YtkiejflgphjfjacDoorPart22
import Derived.Test.YtkiejflgphjfjacDoorPart28
import Derived.Test.YtkiejflgphjfjacDoorPart1
import Derived.ProofKit
import Derived.OpenShut
import Derived.ShutString
import Derived.ChangeOld
import Derived.Below
import Derived.Carry
import Derived.SizedLaws
import Derived.Deep.Slices
import Derived.Test.YtkiejflgphjfjacDoorPart6
import Derived.Lib.SmallJoins
import Derived.Test.YtkiejflgphjfjacDoorPart17
/-
  Symbols of a cargo by their numbers, in memory: made, joined, decoded.
-/
namespace Go.Proofs.YtkiejflgphjfjacDoor
open Go.RowKit
set_option linter.unusedVariables false
set_option linter.unusedSimpArgs false

/-- two lists of symbols, joined -/
theorem concat2S (b m1 m2 mm c1 c2 : Nat) (a1 a2 : Option Addr) (l1 l2 : List MSym) (W : World) (hk : W.heap[b]? = some (.cells #[.slice a1 m1 c1, .slice a2 m2 c2] 24 (0, 0))) (h1 : Lies W a1 (symCells l1)) (h2 : Lies W a2 (symCells l2)) (e1 : l1.length = m1) (e2 : l2.length = m2) (he : m1 + m2 = mm) (hmm : mm ≤ 60) :
    Calls Tryd.prog 19 #[.slice (some ⟨b, 0, none⟩) 2 2] W fun e w' => ∃ (ga : Option Addr) (gc : Nat), e = .returned (.slice ga mm gc) ∧ Shut (Lies w' ga (symCells (l1 ++ l2))) ∧ Below W.heap.size W w' := by
  obtain ⟨y0, y1⟩ := cells2 hk
  have e3 : [SBlk.mk a1 c1 l1, SBlk.mk a2 c2 l2].map SBlk.val = [.slice a1 m1 c1, .slice a2 m2 c2] := by simp [SBlk.val, e1, e2]
  have e4 : ([SBlk.mk a1 c1 l1, SBlk.mk a2 c2 l2].map SBlk.l).flatten = l1 ++ l2 := by simp
  have e5 : (l1 ++ l2).length = mm := by rw [List.length_append, e1, e2, he]
  have h := concatS_any (some ⟨b, 0, none⟩) 2 [SBlk.mk a1 c1 l1, SBlk.mk a2 c2 l2] W (by simp [maxLen]) (by rw [e4, e5]; omega)
    (by
      rw [e3]
      refine Lies.mk fun kk hkk => ?_
      match kk, hkk with
      | 0, _ => simpa using y0
      | 1, _ => simpa using y1)
    (fun x hx => by
      simp at hx
      rcases hx with rfl | rfl
      · exact h1
      · exact h2)
  refine h.mono ?_
  rintro e w' ⟨v, rfl, ho, hb⟩
  rw [e4, e5] at ho
  obtain ⟨ga, gc, rfl, hga, _⟩ := own_syms ho
  exact ⟨ga, gc, rfl, ⟨hga⟩, hb⟩

/-- symbols of the cargo by these numbers, in memory -/
def SymsOf (W : World) (nb k : Nat) (c : List UInt8) (la : Option Addr) (l : List MSym) (ids : List Nat) : Prop :=
  Lies W la (symCells l) ∧ (∀ y ∈ l, SymIn W y) ∧ l.length = ids.length ∧ l.map MSym.says = ids.map (symOf nb k c)

theorem SymsOf.below {W W' : World} {nb k : Nat} {c : List UInt8} {la : Option Addr} {l : List MSym} {ids : List Nat} (h : SymsOf W nb k c la l ids) (hb : Below W.heap.size W W') : SymsOf W' nb k c la l ids :=
  ⟨h.1.below hb (Nat.le_refl _), fun y hy => (h.2.1 y hy).below hb, h.2.2⟩

theorem SymsOf.app {W : World} {nb k : Nat} {c : List UInt8} {la lb ga : Option Addr} {l l' : List MSym} {ids js : List Nat} (h : SymsOf W nb k c la l ids) (h' : SymsOf W nb k c lb l' js) (hg : Lies W ga (symCells (l ++ l'))) : SymsOf W nb k c ga (l ++ l') (ids ++ js) :=
  ⟨hg, fun y hy => by
    rcases List.mem_append.1 hy with h1 | h1
    · exact h.2.1 y h1
    · exact h'.2.1 y h1, by rw [List.length_append, List.length_append, h.2.2.1, h'.2.2.1], by rw [List.map_append, List.map_append, h.2.2.2, h'.2.2.2]⟩

/-- what Decode answers of them -/
theorem order_decode {n k nb q : Nat} {c : List UInt8} {la : Option Addr} (lc : Nat) {l : List MSym} {ids : List Nat} {W : World} (g : Good n k n k nb) (hc : c.length = n) (h : SymsOf W nb k c la l ids) (hi : ∀ i ∈ ids, i ≤ 9999) (hq : ids.length = q) (h60 : q ≤ 60) (hL : Laid W) :
    Calls Tryd.prog 9 #[.agg #[.int .i64 n, .int .i64 k], .slice la q lc] W fun e w' => ∃ (a' : Option Addr) (c' z : Nat), e = .returned (.tuple #[.slice a' z c', .int .i64 (decCode n k (ids.map (symOf nb k c)))]) ∧ Shut (∃ r : List UInt8, r.length = z ∧ z ≤ 360 ∧ Lies w' a' (bs r) ∧ (decCode n k (ids.map (symOf nb k c)) = 0 → r = c)) ∧ Below W.heap.size W w' := by
  have n2 := g.n2
  have k2 := g.k2
  have hD := decode_any n k la lc l W ⟨by omega, by omega⟩ ⟨by omega, by omega⟩ h.1 h.2.1 (by rw [h.2.2.1]; unfold maxLen; omega) hL
  have hlen := decRes_len n k (l.map MSym.says)
  rw [h.2.2.1, hq, h.2.2.2] at hD
  rw [h.2.2.2] at hlen
  refine hD.mono ?_
  rintro e w' ⟨a', c', rfl, hr, hb⟩
  refine ⟨a', c', _, rfl, ⟨_, rfl, ?_, hr, fun h0 => ?_⟩, hb⟩
  · simp only [Int.toNat_natCast] at hlen
    omega
  · exact (code_sub g hc hi hi (by omega) (by omega) (fun i hh => hh) h0).2

theorem order_symbols (n k nb m : Nat) (a : Option Addr) (cap : Nat) (c : List UInt8) (ia : Option Addr) (ic : Nat) (xs : List Int) (w : World) (g : Good n k n k nb) (hl : c.length = n) (hcap : n ≤ cap) (ha : Lies w a (bs c)) (hi : Lies w ia (xs.map (Value.int .i64))) (hix : ∀ x ∈ xs, I64 x) (hxm : xs.length = m) (hmm : m ≤ 60) (hic : m ≤ ic) (hic2 : ic ≤ maxLen) (hL : Laid w) :
    Calls Tryd.prog 14 #[.agg #[.int .i64 n, .int .i64 k], .slice a n cap, .slice ia m ic] w fun e w' =>
      ∃ (la : Option Addr) (lc : Nat) (l : List MSym), e = .returned (.slice la m lc) ∧ Shut (SymsOf w' nb k c la l (idsOf xs) ∧ ∀ a, la = some a → ∃ b o, a = ⟨b, o, none⟩) ∧ Below w.heap.size w w' := by
  have n2 := g.n2
  have k2 := g.k2
  have e1 : (idsOf xs).length = m := by rw [idsOf_length]; omega
  refine (symbols_good n k n k nb a cap c ia ic m xs w g ⟨by omega, by omega⟩ ⟨by omega, by omega⟩ hl hcap ha hi hix hxm (by unfold maxLen; omega) hic hic2 hL).mono ?_
  rintro e w' ⟨v, rfl, l, ho, hmp, hall, hb⟩
  have hA : ∀ a c n, v = .slice (some a) n c → ∃ b o, a = ⟨b, o, none⟩ := fun a c n hv => by
    rcases ho.2 with ⟨h, _⟩ | ⟨g', cap', cur, h, _⟩
    · rw [h] at hv; cases hv
    · rw [h] at hv; cases hv; exact ⟨_, _, rfl⟩
  obtain ⟨la, lc, rfl, hla, hml, _, _⟩ := own_syms ho
  refine ⟨la, lc, l, by rw [e1], ⟨⟨hla, fun y hy => (hall y hy).1, hml.symm, hmp⟩, ?_⟩, hb⟩
  intro a ha
  subst ha
  exact hA a _ _ rfl

end Go.Proofs.YtkiejflgphjfjacDoor

/-
  peel.Known of symbols of a cargo; the closed fact 'peeled'.
-/
namespace Go.Proofs.YtkiejflgphjfjacDoor
open Go.RowKit
set_option linter.unusedVariables false
set_option linter.unusedSimpArgs false

theorem chkAll_ok {B K : Int} : ∀ {ls : List LSym}, (∀ y ∈ ls, chkS B K y.1 y.2.length = 0) → chkAll B K ls = 0 := by
  intro ls
  induction ls with
  | nil => intro _; rfl
  | cons y l ih => intro h; rw [chkAll, if_neg (by simp [h y List.mem_cons_self])]; exact ih fun x hx => h x (List.mem_cons_of_mem _ hx)

theorem chkAll_sym {B K : Int} {n k nb : Nat} (g : Good B K n k nb) (c : List UInt8) {ids : List Nat} (hi : ∀ i ∈ ids, i ≤ 9999) : chkAll B K (ids.map (symOf nb k c)) = 0 :=
  chkAll_ok fun y hy => by
    obtain ⟨i, hii, rfl⟩ := List.mem_map.1 hy
    exact symOf_chk g c (hi i hii)

/-- what is known one by one of a cargo's symbols -/
noncomputable def pkL (nb k : Nat) (c : List UInt8) (ids : List Nat) : Kn := peelL nb k (ids.map (symRow nb k c)) (noneK nb)

theorem peel_of {n k nb q : Nat} {c : List UInt8} {la : Option Addr} (lc : Nat) {l : List MSym} {ids : List Nat} {W : World} (g : Good n k n k nb) (h : SymsOf W nb k c la l ids) (hi : ∀ i ∈ ids, i ≤ 9999) (hq : ids.length = q) (h60 : q ≤ 60) (hL : Laid W) :
    Calls Tryd.prog 28 #[.agg #[.int .i64 n, .int .i64 k], .slice la q lc] W fun e w' => ∃ (kb : Nat) (bl : List Blk), e = .returned (.tuple #[.slice (some ⟨kb, 0, none⟩) nb nb, .int .i64 0]) ∧ Shut (KnAt w' kb nb k bl (pkL nb k c ids)) ∧ Below W.heap.size W w' := by
  have n2 := g.n2
  have k2 := g.k2
  refine (peelK_good n k n k nb q la lc l _ W g ⟨by omega, by omega⟩ ⟨by omega, by omega⟩ h.1 h.2.1 (by rw [h.2.2.1, hq]) h60 h.2.2.2 hL).mono ?_
  rintro e w' ⟨⟨h0, _⟩ | ⟨kb, bl, rfl, hh⟩, hb⟩
  · exact absurd (chkAll_sym g c hi) h0
  · refine ⟨kb, bl, rfl, ⟨?_⟩, hb⟩
    have e : peeRes nb k (ids.map (symOf nb k c)) = pkL nb k c ids := by
      unfold peeRes pkL
      rw [List.map_map]
      congr 1
    rw [← e]
    exact hh.out.2

theorem KnAt.at {w : World} {kb nb k j : Nat} {bl : List Blk} {K : Kn} (h : KnAt w kb nb k bl K) (hj : j < nb) : ∃ X : Blk, X.l = K.getD j [] ∧ w.cell? ⟨kb, j, none⟩ = some (.slice X.a X.l.length X.cap) ∧ Lies w X.a (bs X.l) ∧ X.l.length ≤ maxLen ∧ (X.l = [] → X = nilB) := by
  have hb : j < bl.length := by rw [h.2.1]; exact hj
  exact ⟨bl[j], (h.l hb).symm, h.cell hb, (h.2.2.1 _ (List.getElem_mem hb)).1, (h.2.2.1 _ (List.getElem_mem hb)).2, h.2.2.2.1 _ (List.getElem_mem hb)⟩

theorem lies_new1 (w : World) (v : Value) (t : TypeId) : Lies (w.alloc (.cells #[v] t)) (some ⟨w.heap.size, 0, none⟩) [v] := Lies.alloc_new w #[v] t

theorem lies_front {w : World} {a : Option Addr} {xs ys : List Value} (h : Lies w a (xs ++ ys)) : Lies w a xs := by
  intro k u hu
  refine h k u ?_
  have hk : k < xs.length := (List.getElem?_eq_some_iff.1 hu).1
  rw [List.getElem?_append_left hk]
  exact hu

theorem SymsOf.take {W : World} {nb k : Nat} {c : List UInt8} {la : Option Addr} {l : List MSym} {ids : List Nat} (h : SymsOf W nb k c la l ids) (q : Nat) : SymsOf W nb k c la (l.take q) (ids.take q) :=
  ⟨lies_front (ys := symCells (l.drop q)) (by rw [← symCells_append, List.take_append_drop]; exact h.1), fun y hy => h.2.1 y (List.mem_of_mem_take hy), by rw [List.length_take, List.length_take, h.2.2.1], by rw [List.map_take, List.map_take, h.2.2.2]⟩

theorem peel_symbols (n k nb m : Nat) (a : Option Addr) (cap : Nat) (c : List UInt8) (ia : Option Addr) (ic : Nat) (xs : List Int) (w : World) (g : Good n k n k nb) (hl : c.length = n) (hcap : n ≤ cap) (ha : Lies w a (bs c)) (hi : Lies w ia (xs.map (Value.int .i64))) (hix : ∀ x ∈ xs, I64 x) (hxm : xs.length = m) (hmm : m ≤ 60) (hic : m ≤ ic) (hic2 : ic ≤ maxLen) (hL : Laid w) :
    Calls Tryd.prog 14 #[.agg #[.int .i64 n, .int .i64 k], .slice a n cap, .slice ia m ic] w fun e w' =>
      ∃ (la : Option Addr) (lc : Nat) (l : List MSym), e = .returned (.slice la m lc) ∧ m ≤ lc ∧ Shut (SymsOf w' nb k c la l (idsOf xs)) ∧ Below w.heap.size w w' := by
  have n2 := g.n2
  have k2 := g.k2
  have e1 : (idsOf xs).length = m := by rw [idsOf_length]; omega
  refine (symbols_good n k n k nb a cap c ia ic m xs w g ⟨by omega, by omega⟩ ⟨by omega, by omega⟩ hl hcap ha hi hix hxm (by unfold maxLen; omega) hic hic2 hL).mono ?_
  rintro e w' ⟨v, rfl, l, ho, hmp, hall, hb⟩
  obtain ⟨la, lc, rfl, hla, hml, hmc, _⟩ := own_syms ho
  exact ⟨la, lc, l, by rw [e1], by omega, ⟨hla, fun y hy => (hall y hy).1, hml.symm, hmp⟩, hb⟩

theorem symL_low {nb k : Nat} {c : List UInt8} {i : Nat} (h : i < nb) : symL nb k c i = piece k i c := by
  apply List.ext_getElem
  · rw [symL_length, piece_length]
  · intro t h1 h2
    rw [symL_length] at h1
    simp only [symL, List.getElem_map, List.getElem_range]
    rw [sumAt_one (k := i) (h := mask (chosen nb i)) (fun j => by rw [chosen_low h]; simp [mask]), if_pos h, List.getD_eq_getElem?_getD, List.getElem?_eq_getElem h2]
    rfl

theorem symRow_two (i : Nat) (hi : i < 2) : symRow 2 1 [5, 6] i = ([decide (i = 0), decide (i = 1)], piece 1 i [5, 6]) := by
  unfold symRow
  rw [symL_low hi]
  congr 1
  unfold maskL
  rw [chosen_low hi]
  match i, hi with
  | 0, _ => rfl
  | 1, _ => rfl

theorem pk_one : pkL 2 1 [5, 6] [0] = [[5], []] := by
  unfold pkL
  simp only [List.map_cons, List.map_nil, symRow_two 0 (by decide)]
  decide

theorem pk_two : pkL 2 1 [5, 6] [0, 1] = [[5], [6]] := by
  unfold pkL
  simp only [List.map_cons, List.map_nil, symRow_two 0 (by decide), symRow_two 1 (by decide)]
  decide

theorem good21 : Good 2 1 2 1 2 := by
  have h : chkP 2 1 = 0 := by decide
  obtain ⟨n, k, nb, g⟩ := good_of h
  have e1 : n = 2 := by have := g.eB; omega
  have e2 : k = 1 := by have := g.eK; omega
  have e3 : nb = 2 := by have := g.eN; have h2 : nB 2 1 = 2 := by decide
                         omega
  subst e1 e2 e3
  exact g

set_option maxRecDepth 8000 in
set_option maxHeartbeats 4000000 in
theorem peeled_any (w : World) (hL : Laid w) : Calls Tryd.prog 30 #[] w fun e w' => e = .returned (.bool true) ∧ Below w.heap.size w w' := by
  obtain ⟨blk0, blk1, blk2⟩ := alloc3' w (.cells #[.int .i64 2, .int .i64 1] 23) (.cells #[.int .u8 5, .int .u8 6] 5) (.cells #[.int .i64 0, .int .i64 1] 3)
  have hB3 : Below w.heap.size w (((w.alloc (.cells #[.int .i64 2, .int .i64 1] 23)).alloc (.cells #[.int .u8 5, .int .u8 6] 5)).alloc (.cells #[.int .i64 0, .int .i64 1] 3)) := (((Below.refl _ _).alloc (Nat.le_refl _) _).alloc (by simp) _).alloc (by simp; omega) _
  obtain ⟨x0, x1⟩ := Box2.mk w (.int .i64 2) (.int .i64 1) 23
  obtain ⟨c0, c1⟩ := cells2 blk1
  obtain ⟨i0, i1⟩ := cells2 blk2
  have hlc : Lies (((w.alloc (.cells #[.int .i64 2, .int .i64 1] 23)).alloc (.cells #[.int .u8 5, .int .u8 6] 5)).alloc (.cells #[.int .i64 0, .int .i64 1] 3)) (some ⟨w.heap.size + 1, 0, none⟩) (bs [5, 6]) := Lies.mk fun j hj => by
    match j, hj with
    | 0, _ => exact c0
    | 1, _ => exact c1
  have hli : Lies (((w.alloc (.cells #[.int .i64 2, .int .i64 1] 23)).alloc (.cells #[.int .u8 5, .int .u8 6] 5)).alloc (.cells #[.int .i64 0, .int .i64 1] 3)) (some ⟨w.heap.size + 2, 0, none⟩) ([(0 : Int), 1].map (Value.int .i64)) := Lies.mk fun j hj => by
    match j, hj with
    | 0, _ => exact i0
    | 1, _ => exact i1
  have hS := peel_symbols 2 1 2 2 (some ⟨w.heap.size + 1, 0, none⟩) 2 [5, 6] (some ⟨w.heap.size + 2, 0, none⟩) 2 [0, 1] _ good21 rfl (by decide) hlc hli (by intro x hx; simp at hx; rcases hx with rfl | rfl <;> exact ⟨by omega, by omega⟩) rfl (by decide) (by decide) (by unfold maxLen; omega) (hL.below hB3)
  have hids : idsOf [0, 1] = [0, 1] := by decide
  rw [hids] at hS
  have HB := Shut.mk blk0
  have HL := Shut.mk hL
  clear blk0 blk1 blk2 c0 c1 i0 i1 hlc hli hids hL
  go_enter Tryd.func30, Tryd.ntmps30
  go_wp2_with fail
  refine hS.mono ?_
  rintro e w1 ⟨la, lc, l, rfl, hlc, HS, hb1⟩
  replace HB := Shut.mk (blk_below HB.out hb1)
  replace hB3 := hB3.trans (hb1.mono hB3.size)
  clear hS hb1 x0 x1
  have hK1 : ∀ W, Below w1.heap.size w1 W → Calls Tryd.prog 28 #[.agg #[.int .i64 2, .int .i64 1], .slice la 1 lc] W fun e w' => ∃ (kb : Nat) (bl : List Blk), e = .returned (.tuple #[.slice (some ⟨kb, 0, none⟩) 2 2, .int .i64 0]) ∧ Shut (KnAt w' kb 2 1 bl [[5], []]) ∧ Below W.heap.size W w' := fun W hW => by
    have h := peel_of (q := 1) lc good21 ((HS.out.below hW).take 1) (by intro i hi; simp at hi; omega) rfl (by decide) (HL.out.below (hB3.trans (hW.mono hB3.size)))
    rw [show [0, 1].take 1 = [0] from rfl, pk_one] at h
    exact h
  have hK2 : ∀ W, Below w1.heap.size w1 W → Calls Tryd.prog 28 #[.agg #[.int .i64 2, .int .i64 1], .slice la 2 lc] W fun e w' => ∃ (kb : Nat) (bl : List Blk), e = .returned (.tuple #[.slice (some ⟨kb, 0, none⟩) 2 2, .int .i64 0]) ∧ Shut (KnAt w' kb 2 1 bl [[5], [6]]) ∧ Below W.heap.size W w' := fun W hW => by
    have h := peel_of (q := 2) lc good21 (HS.out.below hW) (by intro i hi; simp at hi; omega) rfl (by decide) (HL.out.below (hB3.trans (hW.mono hB3.size)))
    rw [pk_two] at h
    exact h
  obtain ⟨x0, x1⟩ := cells2 HB.out
  have D1 : Shut (Below w1.heap.size w1 w1.drew) := ⟨(Below.refl _ _).drew⟩
  have D0 : Shut (Below w1.heap.size w1 w1) := ⟨Below.refl _ _⟩
  have x0d : w1.drew.cell? ⟨w.heap.size, 0, none⟩ = some (.int .i64 2) := x0
  have x1d : w1.drew.cell? ⟨w.heap.size, 1, none⟩ = some (.int .i64 1) := x1
  have hc1 : 1 ≤ lc := by omega
  have hc2 : (1 : Int) ≤ (lc : Int) := by omega
  go_upto_region 3 with fail
  go_region_held3 (fun w' => w'.cell? ⟨w.heap.size, 0, none⟩ = some (.int .i64 2) ∧ w'.cell? ⟨w.heap.size, 1, none⟩ = some (.int .i64 1)) (exact ⟨by assumption, by assumption⟩) (first | (go_at_call 28; (first | refine (hK1 w1 D0.out).mono ?_ | refine (hK1 w1.drew D1.out).mono ?_); rintro e w2 ⟨ka, bla, rfl, HA, hb2⟩; have h12 : Below w1.heap.size w1 w2 := (by first | exact hb2 | exact D1.out.trans (hb2.mono D1.out.size)); have v0 := cellC x0 h12; have v1 := cellC x1 h12))
  all_goals
    clear hK1 D1 D0 x0d x1d x0 x1 hb2
    have hK := hK2 w2 h12
    have hB12 := hB3.trans (h12.mono hB3.size)
    clear hK2
    go_wp2_with fail
    refine hK.mono ?_
    rintro e w3 ⟨kb, blb, rfl, HBK, hb3⟩
    replace HA := Shut.mk (HA.out.below hb3)
    replace hB12 := hB12.trans (hb3.mono hB12.size)
    clear hK v0 v1 hb3 h12
    obtain ⟨A0, a0, ca0, la0, ma0, _⟩ := HA.out.at (j := 0) (by decide)
    obtain ⟨A1, a1, ca1, _, _, na1⟩ := HA.out.at (j := 1) (by decide)
    obtain ⟨B1, b1, cb1, lb1, mb1, _⟩ := HBK.out.at (j := 1) (by decide)
    have ea0 : A0.l = [5] := a0
    have eb1 : B1.l = [6] := b1
    have en1 := na1 a1
    subst en1
    obtain ⟨A0a, A0c, A0l⟩ := A0
    obtain ⟨B1a, B1c, B1l⟩ := B1
    simp only at ea0 eb1
    subst ea0 eb1
    simp only [nilB, List.length_cons, List.length_nil, Nat.zero_add] at ca0 ca1 cb1 la0 lb1
    have hl5 := lies_new1 w3 (.int .u8 5) 5
    have bd : Below w3.heap.size w3 (w3.alloc (.cells #[.int .u8 5] 5)) := (Below.refl _ _).alloc (Nat.le_refl _) _
    have hE := equalBlock (w := w3.alloc (.cells #[.int .u8 5] 5)) A0a (some ⟨w3.heap.size, 0, none⟩) A0c 1 [5] [5] (by unfold maxLen; simp) (by unfold maxLen; simp) (la0.below bd (Nat.le_refl _)) hl5
    rw [decide_eq_true rfl] at hE
    simp only [List.length_cons, List.length_nil, Nat.zero_add] at hE
    have hne : ∀ W : World, (binOp .eql 36 (.slice none 0 0) (.slice none 0 0)).run Tryd.prog W = .ok (.bool true) W := fun W => Lib.run_eql_slice_nil W 36 5 none 0 0 0 0 Tryd.underlying36
    have HLB := Shut.mk (And.intro lb1 (And.intro ca1 (And.intro cb1 bd)))
    clear a0 a1 b1 na1 ma0 mb1 la0 lb1 hl5 HA HBK bd
    go_wp2_with fail
    refine hE.mono ?_
    rintro e w5 ⟨rfl, n5, hw5⟩
    have h35 : Below w3.heap.size w3 w5 := by rw [hw5]; exact HLB.out.2.2.2.trans (bdn _ _ _)
    have da1 := cellC HLB.out.2.1 h35
    have db1 := cellC HLB.out.2.2.1 h35
    have lb5 := HLB.out.1.below h35 (Nat.le_refl _)
    have hB5 := hB12.trans (h35.mono hB12.size)
    clear hE hw5 ca0 ca1 cb1 HLB h35
    have hl6 := lies_new1 w5 (.int .u8 6) 5
    have bd : Below w5.heap.size w5 (w5.alloc (.cells #[.int .u8 6] 5)) := (Below.refl _ _).alloc (Nat.le_refl _) _
    have hE := equalBlock (w := w5.alloc (.cells #[.int .u8 6] 5)) B1a (some ⟨w5.heap.size, 0, none⟩) B1c 1 [6] [6] (by unfold maxLen; simp) (by unfold maxLen; simp) (lb5.below bd (Nat.le_refl _)) hl6
    rw [decide_eq_true rfl] at hE
    simp only [List.length_cons, List.length_nil, Nat.zero_add] at hE
    have hB6 := hB5.trans (bd.mono hB5.size)
    clear lb5 hl6 bd
    go_wp2_with fail
    refine hE.mono ?_
    rintro e w6 ⟨rfl, n6, hw6⟩
    have hF : Below w.heap.size w w6 := by rw [hw6]; exact hB6.trans (bdn _ _ _)
    clear hE hw6
    go_wp2
    go_ret
    exact ⟨rfl, hF⟩

end Go.Proofs.YtkiejflgphjfjacDoor

/-
  PeelSays: the walk.
-/
namespace Go.Proofs.YtkiejflgphjfjacDoor
open Go.RowKit
set_option linter.unusedVariables false
set_option linter.unusedSimpArgs false

/-- the law's own comparison, of two blocks that are alike -/
theorem peelEq1 (X Y : Blk) (w : World) (hx : Lies w X.a (bs X.l)) (hy : Lies w Y.a (bs Y.l)) (mx : X.l.length ≤ maxLen) (my : Y.l.length ≤ maxLen) (nx : X.l = [] → X = nilB) (ny : Y.l = [] → Y = nilB) (he : X.l = Y.l) :
    Calls Tryd.prog 32 #[.slice X.a X.l.length X.cap, .slice Y.a Y.l.length Y.cap] w fun e w' => e = .returned (.bool true) ∧ ∃ n, w' = w.drewN n := by
  have hE := equalBlock (w := w) X.a Y.a X.cap Y.cap X.l Y.l mx my hx hy
  rw [decide_eq_true he] at hE
  by_cases h0 : X.l = []
  · have e1 := nx h0
    have e2 := ny (by rw [← he]; exact h0)
    subst e1 e2
    simp only [nilB, List.length_nil] at hE ⊢
    have hne : ∀ W : World, (binOp .eql 36 (.slice none 0 0) (.slice none 0 0)).run Tryd.prog W = .ok (.bool true) W := fun W => Lib.run_eql_slice_nil W 36 5 none 0 0 0 0 Tryd.underlying36
    clear hx hy mx my nx ny he h0
    go_enter Tryd.func32, Tryd.ntmps32
    go_wp2_with fail
    refine hE.mono ?_
    rintro e w1 ⟨rfl, n1, rfl⟩
    clear hE
    go_wp2
    go_ret
    exact ⟨rfl, n1, rfl⟩
  · have h1 : Y.l ≠ [] := by rw [← he]; exact h0
    obtain ⟨xb, xo, hxa⟩ := hx.some (k := 0) (by simpa [bs] using List.length_pos_iff.2 h0)
    obtain ⟨yb, yo, hya⟩ := hy.some (k := 0) (by simpa [bs] using List.length_pos_iff.2 h1)
    obtain ⟨Xa, Xc, Xl⟩ := X
    obtain ⟨Ya, Yc, Yl⟩ := Y
    simp only at *
    subst hxa hya
    have hnx : ∀ W : World, (binOp .eql 36 (.slice (some ⟨xb, xo, none⟩) Xl.length Xc) (.slice none 0 0)).run Tryd.prog W = .ok (.bool false) W := fun W => Lib.run_eql_slice_nil W 36 5 (some ⟨xb, xo, none⟩) Xl.length Xc 0 0 Tryd.underlying36
    have hny : ∀ W : World, (binOp .eql 36 (.slice (some ⟨yb, yo, none⟩) Yl.length Yc) (.slice none 0 0)).run Tryd.prog W = .ok (.bool false) W := fun W => Lib.run_eql_slice_nil W 36 5 (some ⟨yb, yo, none⟩) Yl.length Yc 0 0 Tryd.underlying36
    clear hx hy mx my nx ny he h0 h1
    go_enter Tryd.func32, Tryd.ntmps32
    go_wp2_with fail
    refine hE.mono ?_
    rintro e w1 ⟨rfl, n1, rfl⟩
    clear hE
    go_wp2
    go_ret
    exact ⟨rfl, n1, rfl⟩

theorem entersPS1 : ∀ args w, (callFunc 32 args).run Tryd.prog w = .ok (.enter 32 args) w := enters_of Tryd.func32 (by kernel_rfl) rfl

theorem equalNil (w : World) : Calls Tryd.prog 31 #[.slice none 0 0, .slice none 0 0, .func (.func 32) #[] #[]] w fun e w' => e = .returned (.bool true) ∧ ∃ n, w' = w.drewN n := by
  have eg := entersPS1
  go_enter Tryd.func31, Tryd.ntmps31
  go_wp2
  go_loopw [17] (fun i wr => i = .int .i64 0 ∧ wr = w) (fun i _ => 0)
  case atStart => exact ⟨rfl, rfl⟩
  case round =>
    obtain ⟨rfl, rfl⟩ := hrel
    go_wp2
    go_ret
    exact ⟨rfl, 0, rfl⟩

theorem equalKn (ka kb nb k : Nat) (bl bl' : List Blk) (K : Kn) (w : World) (hA : KnAt w ka nb k bl K) (hB : KnAt w kb nb k bl' K) (hn : nb ≤ 24) :
    Calls Tryd.prog 31 #[.slice (some ⟨ka, 0, none⟩) nb nb, .slice (some ⟨kb, 0, none⟩) nb nb, .func (.func 32) #[] #[]] w fun e w' => e = .returned (.bool true) ∧ ∃ n, w' = w.drewN n := by
  have eg := entersPS1
  have HA := Shut.mk hA
  have HB := Shut.mk hB
  clear hA hB
  go_enter Tryd.func31, Tryd.ntmps31
  go_wp2
  go_loopw [17] (fun i wr => ∃ t nq : Nat, t ≤ nb ∧ i = .int .i64 t ∧ wr = w.drewN nq) (fun i _ => nb - (intOf i).toNat)
  case atStart => exact ⟨0, 0, Nat.zero_le _, rfl, rfl⟩
  case round =>
    obtain ⟨t, nq, ht, rfl, rfl⟩ := hrel
    by_cases hlt : t < nb
    · obtain ⟨X, xe, xc, xl, xm, xn⟩ := HA.out.at hlt
      obtain ⟨Y, ye, yc, yl, ym, yn⟩ := HB.out.at hlt
      have hQ := peelEq1 X Y (w.drewN nq) (xl.drewN nq) (yl.drewN nq) xm ym xn yn (xe.trans ye.symm)
      clear xe xl xm xn ye yl ym yn
      go_wp2_with fail
      refine hQ.mono ?_
      rintro e w1 ⟨rfl, n1, rfl⟩
      clear hQ xc yc
      go_wp2
      go_roundw
      case rel => exact ⟨t + 1, _, by omega, by go_num, rfl⟩
      case measure => simp [intOf]; omega
    · go_wp2
      go_ret
      exact ⟨rfl, nq, rfl⟩

theorem good_same {B K : Int} {n k nb n' k' nb' : Nat} (g : Good B K n k nb) (g' : Good B K n' k' nb') : n = n' ∧ k = k' ∧ nb = nb' := by
  have h1 := g.eB
  have h2 := g'.eB
  have h3 := g.eK
  have h4 := g'.eK
  have h5 := g.eN
  have h6 := g'.eN
  exact ⟨by omega, by omega, by omega⟩

set_option maxRecDepth 8000 in
theorem W_peelSays (B K : Int) (la : Option Addr) (lc : Nat) (l : List MSym) (w : World) (hB : I64 B) (hK : I64 K) (hl : Lies w la (symCells l)) (hall : ∀ y ∈ l, SymIn w y) (hm : l.length ≤ maxLen) (hL : Laid w) :
    Calls Tryd.prog 8 #[.agg #[.int .i64 B, .int .i64 K], .slice la l.length lc] w fun e w' => e = .returned (.bool true) ∧ Below w.heap.size w w' := by
  have hBl : Below w.heap.size w (w.alloc (.cells #[.int .i64 B, .int .i64 K] 23)) := (Below.refl _ _).alloc (Nat.le_refl _) _
  have HPB : Shut ((w.alloc (.cells #[.int .i64 B, .int .i64 K] 23)).heap[w.heap.size]? = some (.cells #[.int .i64 B, .int .i64 K] 23 (0, 0))) := ⟨by rw [heap_alloc_eq, if_pos rfl]⟩
  obtain ⟨x0, x1⟩ := cells2 HPB.out
  have hD := peelK_any B K la lc l (w.alloc (.cells #[.int .i64 B, .int .i64 K] 23)) hB hK (hl.below hBl (Nat.le_refl _)) (fun y hy => (hall y hy).below hBl) hm (hL.below hBl)
  have hE : ∀ W, Below w.heap.size w W → _ := fun W hW => peeledR_any B K la lc l W hB hK (hl.below hW (Nat.le_refl _)) (fun y hy => (hall y hy).below hW) hm
  have HL := Shut.mk hL
  obtain ⟨code, hcode⟩ : ∃ code, peeCode B K (l.map MSym.says) = code := ⟨_, rfl⟩
  rw [hcode] at hD
  simp only [hcode] at hE
  have HE := Shut.mk hE
  unfold maxLen at hm
  obtain ⟨ls, hls⟩ : ∃ ls, l.map MSym.says = ls := ⟨_, rfl⟩
  rw [hls] at hD
  simp only [hls] at HE
  generalize l.length = q at *
  clear hl hall hL hE hcode hls
  go_enter Tryd.func8, Tryd.ntmps8
  go_wp2_with fail
  refine hD.mono ?_
  rintro e w1 ⟨hc1, hb1⟩
  replace HPB := Shut.mk (blk_below HPB.out hb1)
  replace hBl := hBl.trans (hb1.mono hBl.size)
  have hE1 := HE.out w1 hBl
  clear hD hb1 x0 x1 HE
  obtain ⟨x0, x1⟩ := cells2 HPB.out
  rcases hc1 with ⟨hno, rfl⟩ | ⟨n, k, nb, g, ka, bla, rfl, HA⟩
  · go_wp2_with fail
    refine hE1.mono ?_
    rintro e w2 ⟨hc2, hb2⟩
    rcases hc2 with ⟨_, rfl⟩ | ⟨n', k', nb', g', kb, blb, rfl, HB⟩
    · replace hBl := hBl.trans (hb2.mono hBl.size)
      have hP := peeled_any w2 (HL.out.below hBl)
      clear hE1 hb2 x0 x1 HPB
      go_wp2_with fail
      refine hP.mono ?_
      rintro e w3 ⟨rfl, hb3⟩
      replace hBl := hBl.trans (hb3.mono hBl.size)
      have hQ := equalNil w3
      have hcc : (code == code) = true := by simp
      clear hP hb3
      go_wp2_with fail
      refine hQ.mono ?_
      rintro e w4 ⟨rfl, nn, rfl⟩
      have h4 := hBl.trans (bdn w3 nn w.heap.size)
      clear hQ
      go_wp2
      go_ret
      exact ⟨rfl, h4⟩
    · exact absurd HB.out.1 hno
  · go_wp2_with fail
    refine hE1.mono ?_
    rintro e w2 ⟨hc2, hb2⟩
    rcases hc2 with ⟨hno, rfl⟩ | ⟨n', k', nb', g', kb, blb, rfl, HB⟩
    · exact absurd HA.out.1 hno
    · obtain ⟨e1, e2, e3⟩ := good_same g g'
      subst e1 e2 e3
      have b2 := g.b2
      replace hBl := hBl.trans (hb2.mono hBl.size)
      have HA2 := Shut.mk (HA.out.2.below hb2)
      have hP := peeled_any w2 (HL.out.below hBl)
      clear hE1 hb2 x0 x1 HPB HA g g'
      go_wp2_with fail
      refine hP.mono ?_
      rintro e w3 ⟨rfl, hb3⟩
      replace hBl := hBl.trans (hb3.mono hBl.size)
      have hQ := equalKn ka kb nb k bla blb _ w3 (HA2.out.below hb3) (HB.out.2.below hb3) b2
      clear hP hb3
      go_wp2_with fail
      refine hQ.mono ?_
      rintro e w4 ⟨rfl, nn, rfl⟩
      have h4 := hBl.trans (bdn w3 nn w.heap.size)
      clear hQ
      go_wp2
      go_ret
      exact ⟨rfl, h4⟩

end Go.Proofs.YtkiejflgphjfjacDoor

/-
  What came in, opened: byte slices and slices of byte slices, whatever their readings are. Nothing of any program.
-/
namespace Go.Proofs.YtkiejflgphjfjacDoor
open Go.ChangeShapes Go.WideShapes Go.ChangeAt Go.RowKit
set_option linter.unusedVariables false
set_option linter.unusedSimpArgs false

section
variable {H : Type} {enc : TypeId × Value → H} {P : Program} {w : World} {held : Bool}

theorem u8_of_wf {n : Int} (h : (Lit.int .u8 n).wf = true) : 0 ≤ n ∧ n < 256 := by
  have : 0 ≤ n ∧ n ≤ 255 := by simpa [Lit.wf, IntKind.min, IntKind.max, IntKind.signed, IntKind.bits] using h
  omega

/-- an address of cells has no spot of its own -/
theorem lies_addr {a : Addr} {k : Nat} {u u0 : Value} (h0 : w.cell? (a.add 0) = some u0) (hk : w.cell? (a.add k) = some u) : ∃ b off, some a = some (⟨b, off, none⟩ : Addr) ∧ w.cell? ⟨b, off + k, none⟩ = some u := by
  obtain ⟨b, off, spot⟩ := a
  have hspot : spot = none := by simpa [Addr.add] using World.cell?_spot h0
  subst hspot
  exact ⟨b, off, rfl, by simpa [Addr.add_lit] using hk⟩

theorem open_bytes {t e : TypeId} {fuel : Nat} {v : Value} {x : DataW H × List MemPlace} (ht : P.underlying t = some (.slice e)) (he : P.underlying e = some (.int .u8)) (hc : P.cellsOf e = 1)
    (h : DataW.trod enc P w 0 (fun _ => true) held fuel t [v] = some x) : ∃ a cap l, v = .slice a l.length cap ∧ Lies w a (bs l) ∧ l.length ≤ maxLen := by
  rcases open_ints ht he hc h with ⟨hcs, _⟩ | ⟨a, len, cap, zs, hcs, _, hl, hm, hz, _, hcell, hwz⟩
  · simp at hcs
    subst hcs
    exact ⟨none, 0, [], rfl, Lies.nil _ _, by simp⟩
  · simp at hcs hz
    subst hcs
    refine ⟨some a, cap, (zs.take len).map fun z => UInt8.ofNat z.toNat, ?_, ?_, ?_⟩
    · simp; omega
    · intro k u hu
      have hk : k < len := by
        obtain ⟨hk, _⟩ := List.getElem?_eq_some_iff.1 hu
        simp [bs] at hk
        omega
      have hkz : k < zs.length := by omega
      have hcl := hcell k hkz
      have hwf := u8_of_wf (hwz zs[k] (by simp))
      have hu' : u = .int .u8 (zs[k]) := by
        simp [bs, hk, hkz] at hu
        rw [← hu]
        congr 1
        omega
      subst hu'
      have e2 : zs.getD k 0 = zs[k] := by simp [List.getD, hkz]
      rw [e2] at hcl
      exact lies_addr (hcell 0 (by omega)) hcl
    · simp; omega

theorem open_blocks {t e e8 : TypeId} {fuel : Nat} {v : Value} {d : DataW H} {ps : List MemPlace} (ht : P.underlying t = some (.slice e)) (hte : P.underlying e = some (.slice e8)) (he : P.underlying e8 = some (.int .u8)) (hc : P.cellsOf e = 1) (hc8 : P.cellsOf e8 = 1)
    (h : DataW.trod enc P w 0 (fun _ => true) held fuel t [v] = some (d, ps)) :
    ∃ a cap bl, v = .slice a bl.length cap ∧ Lies w a (bl.map Blk.val) ∧ AllIn w bl ∧ bl.length ≤ maxLen ∧ ((d = .nil ∧ bl = []) ∨ ∃ elems sp, d = .slice elems sp ∧ elems.length = bl.length) := by
  rcases Go.Deep.open_slice1 ht hc h with ⟨hcs, hx⟩ | ⟨a, len, cap, m, n, V, D, Pl, hcs, _, hl, hm, hmm, hx, hcell⟩
  · simp at hcs hx
    subst hcs
    exact ⟨none, 0, [], rfl, Lies.nil _ _, (fun b hb => by simp at hb), by simp, .inl ⟨hx.1, rfl⟩⟩
  · simp at hcs hx hmm
    subst hcs hmm
    have hb : ∀ i, i < m → ∃ b : Blk, V i = b.val ∧ Lies w b.a (bs b.l) ∧ b.l.length ≤ maxLen := fun i hi => by
      obtain ⟨a', cap', l, e1, e2, e3⟩ := open_bytes hte he hc8 (hcell i hi).2
      exact ⟨⟨a', cap', l⟩, e1, e2, e3⟩
    have : Inhabited Blk := ⟨⟨none, 0, []⟩⟩
    obtain ⟨B, hB⟩ := Go.Deep.choose_lt hb
    refine ⟨some a, m, (List.range len).map B, by simp, ?_, ?_, by simp; omega, .inr ⟨_, _, hx.1, by simp⟩⟩
    · intro k u hu
      have hk : k < len := by
        obtain ⟨hk, _⟩ := List.getElem?_eq_some_iff.1 hu
        simpa using hk
      have hu' : u = V k := by
        simp [hk] at hu
        rw [← hu, (hB k (by omega)).1]
      subst hu'
      exact lies_addr (hcell 0 (by omega)).1 (hcell k (by omega)).1
    · intro b hb
      obtain ⟨i, hi, rfl⟩ := List.mem_map.1 hb
      exact (hB i (by simp at hi; omega)).2
end
end Go.Proofs.YtkiejflgphjfjacDoor

/-
  What came in, opened, with what it has room for: byte slices, slices of byte slices, a struct of two ints, whatever their readings are. Nothing of any program.
-/
namespace Go.Proofs.YtkiejflgphjfjacDoor
open Go.ChangeShapes Go.WideShapes Go.ChangeAt Go.RowKit
set_option linter.unusedVariables false
set_option linter.unusedSimpArgs false

section
variable {H : Type} {enc : TypeId × Value → H} {P : Program} {w : World} {held : Bool}

/-- how many elements a reading has -/
def dlen : DataW H → Nat
  | .slice el _ => el.length
  | _ => 0

theorem i64_of_wf {n : Int} (h : (Lit.int .i64 n).wf = true) : I64 n := by
  have : -9223372036854775808 ≤ n ∧ n ≤ 9223372036854775807 := by simpa [Lit.wf, IntKind.min, IntKind.max, IntKind.signed, IntKind.bits] using h
  exact this

theorem open_bytes2 {t e : TypeId} {fuel : Nat} {v : Value} {x : DataW H × List MemPlace} (ht : P.underlying t = some (.slice e)) (he : P.underlying e = some (.int .u8)) (hc : P.cellsOf e = 1)
    (h : DataW.trod enc P w 0 (fun _ => true) held fuel t [v] = some x) : ∃ a cap l, v = .slice a l.length cap ∧ Lies w a (bs l) ∧ l.length ≤ maxLen ∧ l.length ≤ cap ∧ dlen x.1 = l.length := by
  rcases open_ints ht he hc h with ⟨hcs, rfl⟩ | ⟨a, len, cap, zs, hcs, _, hl, hm, hz, rfl, hcell, hwz⟩
  · simp at hcs
    subst hcs
    exact ⟨none, 0, [], rfl, Lies.nil _ _, by simp, by simp, rfl⟩
  · simp at hcs hz
    subst hcs
    refine ⟨some a, cap, (zs.take len).map fun z => UInt8.ofNat z.toNat, ?_, ?_, ?_, ?_, ?_⟩
    · simp; omega
    · intro k u hu
      have hk : k < len := by
        obtain ⟨hk, _⟩ := List.getElem?_eq_some_iff.1 hu
        simp [bs] at hk
        omega
      have hkz : k < zs.length := by omega
      have hcl := hcell k hkz
      have hwf := u8_of_wf (hwz zs[k] (by simp))
      have hu' : u = .int .u8 (zs[k]) := by
        simp [bs, hk, hkz] at hu
        rw [← hu]
        congr 1
        omega
      subst hu'
      have e2 : zs.getD k 0 = zs[k] := by simp [List.getD, hkz]
      rw [e2] at hcl
      exact lies_addr (hcell 0 (by omega)) hcl
    · simp; omega
    · simp; omega
    · simp [dlen, lits]

theorem open_blocks2 {t e e8 : TypeId} {fuel : Nat} {v : Value} {d : DataW H} {ps : List MemPlace} (ht : P.underlying t = some (.slice e)) (hte : P.underlying e = some (.slice e8)) (he : P.underlying e8 = some (.int .u8)) (hc : P.cellsOf e = 1) (hc8 : P.cellsOf e8 = 1)
    (h : DataW.trod enc P w 0 (fun _ => true) held fuel t [v] = some (d, ps)) :
    ∃ a cap bl, v = .slice a bl.length cap ∧ Lies w a (bl.map Blk.val) ∧ AllIn w bl ∧ bl.length ≤ maxLen ∧ Caps bl ∧ ((d = .nil ∧ bl = []) ∨ ∃ elems sp, d = .slice elems sp ∧ elems.map dlen = bl.map fun b => b.l.length) := by
  rcases Go.Deep.open_slice1 ht hc h with ⟨hcs, hx⟩ | ⟨a, len, cap, m, n, V, D, Pl, hcs, _, hl, hm, hmm, hx, hcell⟩
  · simp at hcs hx
    subst hcs
    exact ⟨none, 0, [], rfl, Lies.nil _ _, (fun b hb => by simp at hb), by simp, (fun b hb => by simp at hb), .inl ⟨hx.1, rfl⟩⟩
  · simp at hcs hx hmm
    subst hcs hmm
    have hb : ∀ i, i < m → ∃ b : Blk, V i = b.val ∧ Lies w b.a (bs b.l) ∧ b.l.length ≤ maxLen ∧ b.l.length ≤ b.cap ∧ dlen (D i) = b.l.length := fun i hi => by
      obtain ⟨a', cap', l, e1, e2, e3, e4, e5⟩ := open_bytes2 hte he hc8 (hcell i hi).2
      exact ⟨⟨a', cap', l⟩, e1, e2, e3, e4, e5⟩
    have : Inhabited Blk := ⟨⟨none, 0, []⟩⟩
    obtain ⟨B, hB⟩ := Go.Deep.choose_lt hb
    refine ⟨some a, m, (List.range len).map B, by simp, ?_, ?_, by simp; omega, ?_, .inr ⟨_, _, hx.1, ?_⟩⟩
    · intro k u hu
      have hk : k < len := by
        obtain ⟨hk, _⟩ := List.getElem?_eq_some_iff.1 hu
        simpa using hk
      have hu' : u = V k := by
        simp [hk] at hu
        rw [← hu, (hB k (by omega)).1]
      subst hu'
      exact lies_addr (hcell 0 (by omega)).1 (hcell k (by omega)).1
    · intro b hb
      obtain ⟨i, hi, rfl⟩ := List.mem_map.1 hb
      have := hB i (by simp at hi; omega)
      exact ⟨this.2.1, this.2.2.1⟩
    · intro b hb
      obtain ⟨i, hi, rfl⟩ := List.mem_map.1 hb
      exact (hB i (by simp at hi; omega)).2.2.2.1
    · rw [List.map_map, List.map_map]
      apply List.map_congr_left
      intro i hi
      exact (hB i (by simp at hi; omega)).2.2.2.2

theorem open_plan {r : Reach} {b0 : Nat} {t : TypeId} {f0 f1 : Field} {v : Value} {d : DataW H} {p : List MemPlace} (hs : P.underlying t = some (.struct #[f0, f1])) (hone : Go.Deep.oneCellFields P #[f0, f1] = true) (hC : P.cellsOf t = 2)
    (h0 : P.underlying f0.type = some (.int .i64)) (h1 : P.underlying f1.type = some (.int .i64))
    (hv : Value.okWide P w r b0 t v) (h : DataW.Trod enc P w 0 (fun _ => true) held t v d p) : ∃ B K : Int, v = .agg #[.int .i64 B, .int .i64 K] ∧ I64 B ∧ I64 K := by
  obtain ⟨c0, c1, y0, y1, m, rfl, rfl, rfl, hy0, hy1⟩ := Go.Joins.open_agg2 hs hone hC hv h
  obtain ⟨a, e0, rfl, wa⟩ := DataW.trod_int h0 hy0
  obtain ⟨b, e1, rfl, wb⟩ := DataW.trod_int h1 hy1
  simp at e0 e1
  subst e0 e1
  exact ⟨a, b, rfl, i64_of_wf wa, i64_of_wf wb⟩
end
end Go.Proofs.YtkiejflgphjfjacDoor

/-
  Slices of ints and of symbols that came in, opened, with what they have room for. Nothing of any program.
-/
namespace Go.Proofs.YtkiejflgphjfjacDoor
open Go.ChangeShapes Go.WideShapes Go.ChangeAt Go.RowKit
set_option linter.unusedVariables false
set_option linter.unusedSimpArgs false

section
variable {H : Type} {enc : TypeId × Value → H} {P : Program} {w : World} {held : Bool}

theorem open_ints2 {t e : TypeId} {fuel : Nat} {v : Value} {x : DataW H × List MemPlace} (ht : P.underlying t = some (.slice e)) (he : P.underlying e = some (.int .i64)) (hc : P.cellsOf e = 1)
    (h : DataW.trod enc P w 0 (fun _ => true) held fuel t [v] = some x) : ∃ (a : Option Addr) (cap : Nat) (l : List Int), v = .slice a l.length cap ∧ Lies w a (l.map (Value.int .i64)) ∧ (∀ y ∈ l, I64 y) ∧ l.length ≤ cap ∧ cap ≤ maxLen := by
  rcases open_ints ht he hc h with ⟨hcs, _⟩ | ⟨a, len, cap, zs, hcs, _, hl, hm, hz, _, hcell, hwz⟩
  · simp at hcs
    subst hcs
    exact ⟨none, 0, [], rfl, Lies.nil _ _, (fun y hy => by cases hy), by simp, by simp [maxLen]⟩
  · simp at hcs hz
    subst hcs
    refine ⟨some a, cap, zs.take len, by simp; omega, ?_, fun y hy => i64_of_wf (hwz y (List.mem_of_mem_take hy)), by simp; omega, hm⟩
    intro k u hu
    have hk : k < len := by
      obtain ⟨hk, _⟩ := List.getElem?_eq_some_iff.1 hu
      simp at hk
      omega
    have hkz : k < zs.length := by omega
    have hcl := hcell k hkz
    have hu' : u = .int .i64 (zs[k]) := by
      simp [hk, hkz] at hu
      exact hu.symm
    subst hu'
    have e2 : zs.getD k 0 = zs[k] := by simp [List.getD, hkz]
    rw [e2] at hcl
    exact lies_addr (hcell 0 (by omega)) hcl

theorem cells_two' {base : Nat} {a : Addr} {cs : List Value} (h : w.cells? base a 2 = some cs) : ∃ c0 c1, cs = [c0, c1] ∧ w.cell? (a.add 0) = some c0 ∧ w.cell? (a.add 1) = some c1 := by
  obtain ⟨_, hlen, hc⟩ := World.cells?_some h
  match cs, hlen, hc with
  | [c0, c1], _, hc => exact ⟨c0, c1, rfl, hc 0 (by omega), hc 1 (by omega)⟩

theorem open_symbols {t e e8 : TypeId} {f0 f1 : Field} {fuel : Nat} {v : Value} {x : DataW H × List MemPlace} (ht : P.underlying t = some (.slice e)) (hC : P.cellsOf e = 2) (hs : P.underlying e = some (.struct #[f0, f1])) (hone : Go.Deep.oneCellFields P #[f0, f1] = true)
    (h0 : P.underlying f0.type = some (.int .i64)) (h1 : P.underlying f1.type = some (.slice e8)) (he : P.underlying e8 = some (.int .u8)) (hc8 : P.cellsOf e8 = 1)
    (h : DataW.trod enc P w 0 (fun _ => true) held fuel t [v] = some x) : ∃ (a : Option Addr) (cap : Nat) (l : List MSym), v = .slice a l.length cap ∧ Lies w a (symCells l) ∧ (∀ y ∈ l, SymIn w y) ∧ l.length ≤ maxLen := by
  rcases Go.Deep.open_slice ht h with ⟨hcs, hx⟩ | ⟨a, len, cap, m, n, D, Pl, hcs, _, hl, hm, hmm, hx, hcell⟩
  · simp at hcs
    subst hcs
    exact ⟨none, 0, [], rfl, Lies.nil _ _, (fun r hr => by cases hr), by simp⟩
  · simp at hcs hmm
    subst hcs hmm
    rw [hC] at hcell
    have hb' : ∀ i, i < m → ∃ y : MSym, w.cell? ((a.add (i * 2)).add 0) = some (.int .i64 y.id) ∧ w.cell? ((a.add (i * 2)).add 1) = some y.dv ∧ SymIn w y := fun i hi => by
      obtain ⟨cs', e1, e2⟩ := hcell i hi
      obtain ⟨c0, c1, rfl, k0, k1⟩ := cells_two' e1
      obtain ⟨y0, y1, n', _, _, q0, q1⟩ := trod_struct2 hs e2
      obtain ⟨o0, u0⟩ := Go.Deep.hone_of hone 0 f0 rfl
      obtain ⟨o1, u1⟩ := Go.Deep.hone_of hone 1 f1 rfl
      rw [o0, u0] at q0
      rw [o1, u1] at q1
      obtain ⟨id, e3, _, _⟩ := DataW.trod_int h0 q0
      obtain ⟨b, cb, d, g1, g2, g3, g4, _⟩ := open_bytes2 h1 he hc8 (v := c1) (by simpa using q1)
      simp at e3
      subst e3 g1
      exact ⟨⟨id, b, cb, d⟩, k0, k1, g2, g3⟩
    have : Inhabited MSym := ⟨⟨0, none, 0, []⟩⟩
    obtain ⟨B, hB⟩ := Go.Deep.choose_lt hb'
    refine ⟨some a, m, (List.range len).map B, by simp, ?_, ?_, by simp; omega⟩
    · intro k u hu
      have hk : k < 2 * len := by
        obtain ⟨hk, _⟩ := List.getElem?_eq_some_iff.1 hu
        rw [symCells_length] at hk
        simpa using hk
      obtain ⟨g0, g1⟩ := symCells_get (l := (List.range len).map B) (j := k / 2) (by simp; omega)
      simp only [List.getElem_map, List.getElem_range] at g0 g1
      obtain ⟨z0, _, _⟩ := hB 0 (by omega)
      obtain ⟨k0, k1, _⟩ := hB (k / 2) (by omega)
      rw [Go.Deep.add_add] at z0 k0 k1
      rcases Nat.mod_two_eq_zero_or_one k with e | e
      · rw [show 2 * (k / 2) = k by omega, hu] at g0
        rw [show k / 2 * 2 + 0 = k by omega, ← g0] at k0
        exact lies_addr (by simpa using z0) k0
      · rw [show 2 * (k / 2) + 1 = k by omega, hu] at g1
        rw [show k / 2 * 2 + 1 = k by omega, ← g1] at k1
        exact lies_addr (by simpa using z0) k1
    · intro r hr
      obtain ⟨i, hi, rfl⟩ := List.mem_map.1 hr
      exact (hB i (by simp at hi; omega)).2.2
end
end Go.Proofs.YtkiejflgphjfjacDoor

/-
  A symbol that came in, opened: an int and a byte slice. Nothing of any program.
-/
namespace Go.Proofs.YtkiejflgphjfjacDoor
open Go.ChangeShapes Go.WideShapes Go.ChangeAt Go.RowKit
set_option linter.unusedVariables false

section
variable {H : Type} {enc : TypeId × Value → H} {P : Program} {w : World} {held : Bool}

theorem open_symbol {r : Reach} {b0 : Nat} {t e8 : TypeId} {f0 f1 : Field} {v : Value} {d : DataW H} {p : List MemPlace} (hs : P.underlying t = some (.struct #[f0, f1])) (hone : Go.Deep.oneCellFields P #[f0, f1] = true) (hC : P.cellsOf t = 2)
    (h0 : P.underlying f0.type = some (.int .i64)) (h1 : P.underlying f1.type = some (.slice e8)) (he : P.underlying e8 = some (.int .u8)) (hc8 : P.cellsOf e8 = 1)
    (hv : Value.okWide P w r b0 t v) (h : DataW.Trod enc P w 0 (fun _ => true) held t v d p) : ∃ (id : Int) (a : Option Addr) (cap : Nat) (l : List UInt8), v = .agg #[.int .i64 id, .slice a l.length cap] ∧ I64 id ∧ Lies w a (bs l) ∧ l.length ≤ maxLen ∧ l.length ≤ cap := by
  obtain ⟨c0, c1, y0, y1, m, rfl, rfl, rfl, hy0, hy1⟩ := Go.Joins.open_agg2 hs hone hC hv h
  obtain ⟨a, e0, rfl, wa⟩ := DataW.trod_int h0 hy0
  obtain ⟨a', cap, l, rfl, h2, h3, h4, _⟩ := open_bytes2 h1 he hc8 hy1
  simp at e0
  subst e0
  exact ⟨a, a', cap, l, rfl, i64_of_wf wa, h2, h3, h4⟩
end
end Go.Proofs.YtkiejflgphjfjacDoor
