import Derived.Test.YtkiejflgphjfjadDoorPart20
import Derived.Test.YtkiejflgphjfjadDoorPart9
import Derived.Deep.QuietTactic
import Derived.BigQuiet
import Derived.Test.YtkiejflgphjfjadDoorPart1
import Derived.ProofKit
import Derived.OpenShut
import Derived.ShutString
import Derived.ChangeOld
import Derived.Below
import Derived.Carry
import Derived.SizedLaws
import Derived.Deep.Slices
/-
  peel.Known of symbols of a cargo; the closed fact 'peeled'.
-/
namespace Go.Proofs.YtkiejflgphjfjadDoor
open Go.RowKit
set_option linter.unusedVariables false
set_option linter.unusedSimpArgs false

theorem chkAll_ok {B K : Int} : ∀ {ls : List LSym}, (∀ y ∈ ls, chkS B K y.1 y.2.length = 0) → chkAll B K ls = 0 := by
  intro ls
  induction ls with
  | nil => intro _; rfl
  | cons y l ih => intro h; rw [chkAll, if_neg (by simp [h y List.mem_cons_self])]; exact ih fun x hx => h x (List.mem_cons_of_mem _ hx)

theorem chkAll_sym {B K : Int} {n k nb : Nat} (g : Good B K n k nb) (c : List UInt8) {ids : List Nat} (hi : ∀ i ∈ ids, i ≤ 9999) : chkAll B K (ids.map (symOf nb k c)) = 0 :=
  chkAll_ok fun y hy => by
    obtain ⟨i, hii, rfl⟩ := List.mem_map.1 hy
    exact symOf_chk g c (hi i hii)

/-- what is known one by one of a cargo's symbols -/
noncomputable def pkL (nb k : Nat) (c : List UInt8) (ids : List Nat) : Kn := peelL nb k (ids.map (symRow nb k c)) (noneK nb)

theorem peel_of {n k nb q : Nat} {c : List UInt8} {la : Option Addr} (lc : Nat) {l : List MSym} {ids : List Nat} {W : World} (g : Good n k n k nb) (h : SymsOf W nb k c la l ids) (hi : ∀ i ∈ ids, i ≤ 9999) (hq : ids.length = q) (h60 : q ≤ 60) (hL : Laid W) :
    Calls Tryd.prog 7 #[.agg #[.int .i64 n, .int .i64 k], .slice la q lc] W fun e w' => ∃ (kb : Nat) (bl : List Blk), e = .returned (.tuple #[.slice (some ⟨kb, 0, none⟩) nb nb, .int .i64 0]) ∧ Shut (KnAt w' kb nb k bl (pkL nb k c ids)) ∧ Below W.heap.size W w' := by
  have n2 := g.n2
  have k2 := g.k2
  refine (peelK_good n k n k nb q la lc l _ W g ⟨by omega, by omega⟩ ⟨by omega, by omega⟩ h.1 h.2.1 (by rw [h.2.2.1, hq]) h60 h.2.2.2 hL).mono ?_
  rintro e w' ⟨⟨h0, _⟩ | ⟨kb, bl, rfl, hh⟩, hb⟩
  · exact absurd (chkAll_sym g c hi) h0
  · refine ⟨kb, bl, rfl, ⟨?_⟩, hb⟩
    have e : peeRes nb k (ids.map (symOf nb k c)) = pkL nb k c ids := by
      unfold peeRes pkL
      rw [List.map_map]
      congr 1
    rw [← e]
    exact hh.out.2

theorem KnAt.at {w : World} {kb nb k j : Nat} {bl : List Blk} {K : Kn} (h : KnAt w kb nb k bl K) (hj : j < nb) : ∃ X : Blk, X.l = K.getD j [] ∧ w.cell? ⟨kb, j, none⟩ = some (.slice X.a X.l.length X.cap) ∧ Lies w X.a (bs X.l) ∧ X.l.length ≤ maxLen ∧ (X.l = [] → X = nilB) := by
  have hb : j < bl.length := by rw [h.2.1]; exact hj
  exact ⟨bl[j], (h.l hb).symm, h.cell hb, (h.2.2.1 _ (List.getElem_mem hb)).1, (h.2.2.1 _ (List.getElem_mem hb)).2, h.2.2.2.1 _ (List.getElem_mem hb)⟩

theorem lies_new1 (w : World) (v : Value) (t : TypeId) : Lies (w.alloc (.cells #[v] t)) (some ⟨w.heap.size, 0, none⟩) [v] := Lies.alloc_new w #[v] t

theorem lies_front {w : World} {a : Option Addr} {xs ys : List Value} (h : Lies w a (xs ++ ys)) : Lies w a xs := by
  intro k u hu
  refine h k u ?_
  have hk : k < xs.length := (List.getElem?_eq_some_iff.1 hu).1
  rw [List.getElem?_append_left hk]
  exact hu

theorem SymsOf.take {W : World} {nb k : Nat} {c : List UInt8} {la : Option Addr} {l : List MSym} {ids : List Nat} (h : SymsOf W nb k c la l ids) (q : Nat) : SymsOf W nb k c la (l.take q) (ids.take q) :=
  ⟨lies_front (ys := symCells (l.drop q)) (by rw [← symCells_append, List.take_append_drop]; exact h.1), fun y hy => h.2.1 y (List.mem_of_mem_take hy), by rw [List.length_take, List.length_take, h.2.2.1], by rw [List.map_take, List.map_take, h.2.2.2]⟩

theorem peel_symbols (n k nb m : Nat) (a : Option Addr) (cap : Nat) (c : List UInt8) (ia : Option Addr) (ic : Nat) (xs : List Int) (w : World) (g : Good n k n k nb) (hl : c.length = n) (hcap : n ≤ cap) (ha : Lies w a (bs c)) (hi : Lies w ia (xs.map (Value.int .i64))) (hix : ∀ x ∈ xs, I64 x) (hxm : xs.length = m) (hmm : m ≤ 60) (hic : m ≤ ic) (hic2 : ic ≤ maxLen) (hL : Laid w) :
    Calls Tryd.prog 6 #[.agg #[.int .i64 n, .int .i64 k], .slice a n cap, .slice ia m ic] w fun e w' =>
      ∃ (la : Option Addr) (lc : Nat) (l : List MSym), e = .returned (.slice la m lc) ∧ m ≤ lc ∧ Shut (SymsOf w' nb k c la l (idsOf xs)) ∧ Below w.heap.size w w' := by
  have n2 := g.n2
  have k2 := g.k2
  have e1 : (idsOf xs).length = m := by rw [idsOf_length]; omega
  refine (symbols_good n k n k nb a cap c ia ic m xs w g ⟨by omega, by omega⟩ ⟨by omega, by omega⟩ hl hcap ha hi hix hxm (by unfold maxLen; omega) hic hic2 hL).mono ?_
  rintro e w' ⟨v, rfl, l, ho, hmp, hall, hb⟩
  obtain ⟨la, lc, rfl, hla, hml, hmc, _⟩ := own_syms ho
  exact ⟨la, lc, l, by rw [e1], by omega, ⟨hla, fun y hy => (hall y hy).1, hml.symm, hmp⟩, hb⟩

theorem symL_low {nb k : Nat} {c : List UInt8} {i : Nat} (h : i < nb) : symL nb k c i = piece k i c := by
  apply List.ext_getElem
  · rw [symL_length, piece_length]
  · intro t h1 h2
    rw [symL_length] at h1
    simp only [symL, List.getElem_map, List.getElem_range]
    rw [sumAt_one (k := i) (h := mask (chosen nb i)) (fun j => by rw [chosen_low h]; simp [mask]), if_pos h, List.getD_eq_getElem?_getD, List.getElem?_eq_getElem h2]
    rfl

theorem symRow_two (i : Nat) (hi : i < 2) : symRow 2 1 [5, 6] i = ([decide (i = 0), decide (i = 1)], piece 1 i [5, 6]) := by
  unfold symRow
  rw [symL_low hi]
  congr 1
  unfold maskL
  rw [chosen_low hi]
  match i, hi with
  | 0, _ => rfl
  | 1, _ => rfl

theorem pk_one : pkL 2 1 [5, 6] [0] = [[5], []] := by
  unfold pkL
  simp only [List.map_cons, List.map_nil, symRow_two 0 (by decide)]
  decide

theorem pk_two : pkL 2 1 [5, 6] [0, 1] = [[5], [6]] := by
  unfold pkL
  simp only [List.map_cons, List.map_nil, symRow_two 0 (by decide), symRow_two 1 (by decide)]
  decide

theorem good21 : Good 2 1 2 1 2 := by
  have h : chkP 2 1 = 0 := by decide
  obtain ⟨n, k, nb, g⟩ := good_of h
  have e1 : n = 2 := by have := g.eB; omega
  have e2 : k = 1 := by have := g.eK; omega
  have e3 : nb = 2 := by have := g.eN; have h2 : nB 2 1 = 2 := by decide
                         omega
  subst e1 e2 e3
  exact g

set_option maxRecDepth 8000 in
set_option maxHeartbeats 4000000 in
theorem peeled_any (w : World) (hL : Laid w) : Calls Tryd.prog 5 #[] w fun e w' => e = .returned (.bool true) ∧ Below w.heap.size w w' := by
  obtain ⟨blk0, blk1, blk2⟩ := alloc3' w (.cells #[.int .i64 2, .int .i64 1] 23) (.cells #[.int .u8 5, .int .u8 6] 5) (.cells #[.int .i64 0, .int .i64 1] 3)
  have hB3 : Below w.heap.size w (((w.alloc (.cells #[.int .i64 2, .int .i64 1] 23)).alloc (.cells #[.int .u8 5, .int .u8 6] 5)).alloc (.cells #[.int .i64 0, .int .i64 1] 3)) := (((Below.refl _ _).alloc (Nat.le_refl _) _).alloc (by simp) _).alloc (by simp; omega) _
  obtain ⟨x0, x1⟩ := Box2.mk w (.int .i64 2) (.int .i64 1) 23
  obtain ⟨c0, c1⟩ := cells2 blk1
  obtain ⟨i0, i1⟩ := cells2 blk2
  have hlc : Lies (((w.alloc (.cells #[.int .i64 2, .int .i64 1] 23)).alloc (.cells #[.int .u8 5, .int .u8 6] 5)).alloc (.cells #[.int .i64 0, .int .i64 1] 3)) (some ⟨w.heap.size + 1, 0, none⟩) (bs [5, 6]) := Lies.mk fun j hj => by
    match j, hj with
    | 0, _ => exact c0
    | 1, _ => exact c1
  have hli : Lies (((w.alloc (.cells #[.int .i64 2, .int .i64 1] 23)).alloc (.cells #[.int .u8 5, .int .u8 6] 5)).alloc (.cells #[.int .i64 0, .int .i64 1] 3)) (some ⟨w.heap.size + 2, 0, none⟩) ([(0 : Int), 1].map (Value.int .i64)) := Lies.mk fun j hj => by
    match j, hj with
    | 0, _ => exact i0
    | 1, _ => exact i1
  have hS := peel_symbols 2 1 2 2 (some ⟨w.heap.size + 1, 0, none⟩) 2 [5, 6] (some ⟨w.heap.size + 2, 0, none⟩) 2 [0, 1] _ good21 rfl (by decide) hlc hli (by intro x hx; simp at hx; rcases hx with rfl | rfl <;> exact ⟨by omega, by omega⟩) rfl (by decide) (by decide) (by unfold maxLen; omega) (hL.below hB3)
  have hids : idsOf [0, 1] = [0, 1] := by decide
  rw [hids] at hS
  have HB := Shut.mk blk0
  have HL := Shut.mk hL
  clear blk0 blk1 blk2 c0 c1 i0 i1 hlc hli hids hL
  go_enter Tryd.func5, Tryd.ntmps5
  go_wp2_with fail
  refine hS.mono ?_
  rintro e w1 ⟨la, lc, l, rfl, hlc, HS, hb1⟩
  replace HB := Shut.mk (blk_below HB.out hb1)
  replace hB3 := hB3.trans (hb1.mono hB3.size)
  clear hS hb1 x0 x1
  have hK1 : ∀ W, Below w1.heap.size w1 W → Calls Tryd.prog 7 #[.agg #[.int .i64 2, .int .i64 1], .slice la 1 lc] W fun e w' => ∃ (kb : Nat) (bl : List Blk), e = .returned (.tuple #[.slice (some ⟨kb, 0, none⟩) 2 2, .int .i64 0]) ∧ Shut (KnAt w' kb 2 1 bl [[5], []]) ∧ Below W.heap.size W w' := fun W hW => by
    have h := peel_of (q := 1) lc good21 ((HS.out.below hW).take 1) (by intro i hi; simp at hi; omega) rfl (by decide) (HL.out.below (hB3.trans (hW.mono hB3.size)))
    rw [show [0, 1].take 1 = [0] from rfl, pk_one] at h
    exact h
  have hK2 : ∀ W, Below w1.heap.size w1 W → Calls Tryd.prog 7 #[.agg #[.int .i64 2, .int .i64 1], .slice la 2 lc] W fun e w' => ∃ (kb : Nat) (bl : List Blk), e = .returned (.tuple #[.slice (some ⟨kb, 0, none⟩) 2 2, .int .i64 0]) ∧ Shut (KnAt w' kb 2 1 bl [[5], [6]]) ∧ Below W.heap.size W w' := fun W hW => by
    have h := peel_of (q := 2) lc good21 (HS.out.below hW) (by intro i hi; simp at hi; omega) rfl (by decide) (HL.out.below (hB3.trans (hW.mono hB3.size)))
    rw [pk_two] at h
    exact h
  obtain ⟨x0, x1⟩ := cells2 HB.out
  have D1 : Shut (Below w1.heap.size w1 w1.drew) := ⟨(Below.refl _ _).drew⟩
  have D0 : Shut (Below w1.heap.size w1 w1) := ⟨Below.refl _ _⟩
  have x0d : w1.drew.cell? ⟨w.heap.size, 0, none⟩ = some (.int .i64 2) := x0
  have x1d : w1.drew.cell? ⟨w.heap.size, 1, none⟩ = some (.int .i64 1) := x1
  have hc1 : 1 ≤ lc := by omega
  have hc2 : (1 : Int) ≤ (lc : Int) := by omega
  go_upto_region 3 with fail
  go_region_held3 (fun w' => w'.cell? ⟨w.heap.size, 0, none⟩ = some (.int .i64 2) ∧ w'.cell? ⟨w.heap.size, 1, none⟩ = some (.int .i64 1)) (exact ⟨by assumption, by assumption⟩) (first | (go_at_call 7; (first | refine (hK1 w1 D0.out).mono ?_ | refine (hK1 w1.drew D1.out).mono ?_); rintro e w2 ⟨ka, bla, rfl, HA, hb2⟩; have h12 : Below w1.heap.size w1 w2 := (by first | exact hb2 | exact D1.out.trans (hb2.mono D1.out.size)); have v0 := cellC x0 h12; have v1 := cellC x1 h12))
  all_goals
    clear hK1 D1 D0 x0d x1d x0 x1 hb2
    have hK := hK2 w2 h12
    have hB12 := hB3.trans (h12.mono hB3.size)
    clear hK2
    go_wp2_with fail
    refine hK.mono ?_
    rintro e w3 ⟨kb, blb, rfl, HBK, hb3⟩
    replace HA := Shut.mk (HA.out.below hb3)
    replace hB12 := hB12.trans (hb3.mono hB12.size)
    clear hK v0 v1 hb3 h12
    obtain ⟨A0, a0, ca0, la0, ma0, _⟩ := HA.out.at (j := 0) (by decide)
    obtain ⟨A1, a1, ca1, _, _, na1⟩ := HA.out.at (j := 1) (by decide)
    obtain ⟨B1, b1, cb1, lb1, mb1, _⟩ := HBK.out.at (j := 1) (by decide)
    have ea0 : A0.l = [5] := a0
    have eb1 : B1.l = [6] := b1
    have en1 := na1 a1
    subst en1
    obtain ⟨A0a, A0c, A0l⟩ := A0
    obtain ⟨B1a, B1c, B1l⟩ := B1
    simp only at ea0 eb1
    subst ea0 eb1
    simp only [nilB, List.length_cons, List.length_nil, Nat.zero_add] at ca0 ca1 cb1 la0 lb1
    have hl5 := lies_new1 w3 (.int .u8 5) 5
    have bd : Below w3.heap.size w3 (w3.alloc (.cells #[.int .u8 5] 5)) := (Below.refl _ _).alloc (Nat.le_refl _) _
    have hE := equalBlock (w := w3.alloc (.cells #[.int .u8 5] 5)) A0a (some ⟨w3.heap.size, 0, none⟩) A0c 1 [5] [5] (by unfold maxLen; simp) (by unfold maxLen; simp) (la0.below bd (Nat.le_refl _)) hl5
    rw [decide_eq_true rfl] at hE
    simp only [List.length_cons, List.length_nil, Nat.zero_add] at hE
    have hne : ∀ W : World, (binOp .eql 35 (.slice none 0 0) (.slice none 0 0)).run Tryd.prog W = .ok (.bool true) W := fun W => Lib.run_eql_slice_nil W 35 5 none 0 0 0 0 Tryd.underlying35
    have HLB := Shut.mk (And.intro lb1 (And.intro ca1 (And.intro cb1 bd)))
    clear a0 a1 b1 na1 ma0 mb1 la0 lb1 hl5 HA HBK bd
    go_wp2_with fail
    refine hE.mono ?_
    rintro e w5 ⟨rfl, n5, hw5⟩
    have h35 : Below w3.heap.size w3 w5 := by rw [hw5]; exact HLB.out.2.2.2.trans (bdn _ _ _)
    have da1 := cellC HLB.out.2.1 h35
    have db1 := cellC HLB.out.2.2.1 h35
    have lb5 := HLB.out.1.below h35 (Nat.le_refl _)
    have hB5 := hB12.trans (h35.mono hB12.size)
    clear hE hw5 ca0 ca1 cb1 HLB h35
    have hl6 := lies_new1 w5 (.int .u8 6) 5
    have bd : Below w5.heap.size w5 (w5.alloc (.cells #[.int .u8 6] 5)) := (Below.refl _ _).alloc (Nat.le_refl _) _
    have hE := equalBlock (w := w5.alloc (.cells #[.int .u8 6] 5)) B1a (some ⟨w5.heap.size, 0, none⟩) B1c 1 [6] [6] (by unfold maxLen; simp) (by unfold maxLen; simp) (lb5.below bd (Nat.le_refl _)) hl6
    rw [decide_eq_true rfl] at hE
    simp only [List.length_cons, List.length_nil, Nat.zero_add] at hE
    have hB6 := hB5.trans (bd.mono hB5.size)
    clear lb5 hl6 bd
    go_wp2_with fail
    refine hE.mono ?_
    rintro e w6 ⟨rfl, n6, hw6⟩
    have hF : Below w.heap.size w w6 := by rw [hw6]; exact hB6.trans (bdn _ _ _)
    clear hE hw6
    go_wp2
    go_ret
    exact ⟨rfl, hF⟩

end Go.Proofs.YtkiejflgphjfjadDoor

/-
  PeelTrue: the walk.
-/
namespace Go.Proofs.YtkiejflgphjfjadDoor
open Go.RowKit
set_option linter.unusedVariables false
set_option linter.unusedSimpArgs false

/-- where nothing is asked -/
theorem true_out (B K : Int) (m m2 : Nat) (a : Option Addr) (cap : Nat) (c : List UInt8) (ia ja : Option Addr) (ic jc : Nat) (q : Int) (w : World) (hq : cutCode B K c = q) (h : q ≠ 0 ∨ 60 < m + m2) (hm : m ≤ 2 ^ 60) (hm2 : m2 ≤ 2 ^ 60) (hB : I64 B) (hK : I64 K) (hn : c.length ≤ maxLen) (hcap : c.length ≤ cap) (ha : Lies w a (bs c)) (hL : Laid w) :
    Calls Tryd.prog 3 #[.agg #[.int .i64 B, .int .i64 K], .slice a c.length cap, .slice ia m ic, .slice ja m2 jc] w fun e w' => e = .returned (.bool true) ∧ Below w.heap.size w w' := by
  have hBl : Below w.heap.size w (w.alloc (.cells #[.int .i64 B, .int .i64 K] 23)) := (Below.refl _ _).alloc (Nat.le_refl _) _
  obtain ⟨x0, x1⟩ := Box2.mk w (.int .i64 B) (.int .i64 K) 23
  have hC : Calls Tryd.prog 4 #[.agg #[.int .i64 B, .int .i64 K], .slice a c.length cap] (w.alloc (.cells #[.int .i64 B, .int .i64 K] 23)) fun e w' => ∃ (ba : Option Addr) (z : Nat), e = .returned (.tuple #[.slice ba z z, .int .i64 q]) ∧ Below (w.alloc (.cells #[.int .i64 B, .int .i64 K] 23)).heap.size (w.alloc (.cells #[.int .i64 B, .int .i64 K] 23)) w' := by
    refine (cut_any B K a cap c _ hB hK hn hcap (ha.below hBl (Nat.le_refl _))).mono ?_
    rintro e w' ⟨a', bl, rfl, _, _, _, _, h5⟩
    exact ⟨a', bl.length, by rw [hq], h5⟩
  have HH : Shut ((q != 0) = true ∨ (q = 0 ∧ 60 < m + m2)) := ⟨by
    by_cases h0 : q = 0
    · exact .inr ⟨h0, by rcases h with h | h; exact absurd h0 h; exact h⟩
    · exact .inl (by simpa using h0)⟩
  have HL := Shut.mk hL
  clear hq h hL ha
  unfold maxLen at hn
  generalize c.length = n at *
  go_enter Tryd.func3, Tryd.ntmps3
  go_wp2_with fail
  refine hC.mono ?_
  rintro e w1 ⟨ba, z, rfl, hb1⟩
  replace hBl := hBl.trans (hb1.mono hBl.size)
  clear hb1 hC x0 x1
  have hP1 := peeled_any w1 (HL.out.below hBl)
  go_wp2_with fail
  refine hP1.mono ?_
  rintro e w2 ⟨rfl, hb2⟩
  replace hBl := hBl.trans (hb2.mono hBl.size)
  have hP2 := peeled_any w2 (HL.out.below hBl)
  clear hb2 hP1
  rcases HH.out with h1 | ⟨rfl, h2⟩
  · go_wp2_with fail
    refine hP2.mono ?_
    rintro e w3 ⟨rfl, hb3⟩
    replace hBl := hBl.trans (hb3.mono hBl.size)
    clear hb3 hP2
    go_wp2
    go_ret
    exact ⟨rfl, hBl⟩
  · have h4 : (60 : Int) < (m : Int) + (m2 : Int) := by omega
    go_wp2_with fail
    refine hP2.mono ?_
    rintro e w3 ⟨rfl, hb3⟩
    replace hBl := hBl.trans (hb3.mono hBl.size)
    clear hb3 hP2
    go_wp2
    go_ret
    exact ⟨rfl, hBl⟩

/-- what PeelTrue asks of what is known -/
structure PT (nb k : Nat) (c : List UInt8) (K1 K2 : Kn) : Prop where
  t1 : ∀ j, K1.getD j [] = [] ∨ K1.getD j [] = piece k j c
  t2 : ∀ j, K2.getD j [] = [] ∨ K2.getD j [] = piece k j c
  le : ∀ j, knw K1 j = true → knw K2 j = true

theorem pt_of {n k nb : Nat} (g : Good n k n k nb) (c : List UInt8) (ids js : List Nat) : PT nb k c (pkL nb k c ids) (pkL nb k c (ids ++ js)) := by
  have hT : ∀ (l : List Nat), ∀ r ∈ l.map (symRow nb k c), Tr nb (blkAt k c) (LRow.v r) := fun l r hr => by
    obtain ⟨i, _, rfl⟩ := List.mem_map.1 hr
    exact symRow_true g.b1 g.b2
  exact ⟨peel_true g.k1 (noneK_ok nb k) (hT ids) (noneK_knw nb), peel_true g.k1 (noneK_ok nb k) (hT (ids ++ js)) (noneK_knw nb), fun j hj => peel_more g.k1 (noneK_ok nb k) (fun r hr => by rw [List.map_append]; exact List.mem_append.2 (.inl hr)) (noneK_knw nb) j hj⟩

set_option maxHeartbeats 4000000 in
set_option maxRecDepth 8000 in
theorem true_good (n k nb m m2 ms : Nat) (a : Option Addr) (cap : Nat) (c : List UInt8) (ia : Option Addr) (ic : Nat) (xs : List Int) (ja : Option Addr) (jc : Nat) (ys : List Int) (w : World) (g : Good n k n k nb) (hl : c.length = n) (hcap : n ≤ cap) (ha : Lies w a (bs c)) (hi : Lies w ia (is xs)) (hix : ∀ x ∈ xs, I64 x) (hxm : xs.length = m) (hic : m ≤ ic) (hic2 : ic ≤ maxLen)
    (hj : Lies w ja (is ys)) (hjx : ∀ x ∈ ys, I64 x) (hym : ys.length = m2) (hjc : m2 ≤ jc) (hjc2 : jc ≤ maxLen) (hs : m + m2 ≤ 60) (hms : m + m2 = ms) (hL : Laid w) :
    Calls Tryd.prog 3 #[.agg #[.int .i64 n, .int .i64 k], .slice a n cap, .slice ia m ic, .slice ja m2 jc] w fun e w' => e = .returned (.bool true) ∧ Below w.heap.size w w' := by
  have n2 := g.n2
  have k1 := g.k1
  have k2 := g.k2
  have b1 := g.b1
  have b2 := g.b2
  have hB : I64 n := ⟨by omega, by omega⟩
  have hK : I64 k := ⟨by omega, by omega⟩
  have hm60 : m ≤ 60 := by omega
  have hm260 : m2 ≤ 60 := by omega
  have hBl : Below w.heap.size w (w.alloc (.cells #[.int .i64 n, .int .i64 k] 23)) := (Below.refl _ _).alloc (Nat.le_refl _) _
  have HB : Shut ((w.alloc (.cells #[.int .i64 n, .int .i64 k] 23)).heap[w.heap.size]? = some (.cells #[.int .i64 n, .int .i64 k] 23 (0, 0))) := ⟨by rw [heap_alloc_eq, if_pos rfl]⟩
  have hIx : (idsOf xs).length = m := by rw [idsOf_length]; omega
  have hIy : (idsOf ys).length = m2 := by rw [idsOf_length]; omega
  have hCt := cut_blocks n k nb a cap c _ g hl hcap (ha.below hBl (Nat.le_refl _))
  have hS1 : ∀ W, Below w.heap.size w W → Calls Tryd.prog 6 #[.agg #[.int .i64 n, .int .i64 k], .slice a n cap, .slice ia m ic] W fun e w' =>
      ∃ (la : Option Addr) (lc : Nat) (l : List MSym), e = .returned (.slice la m lc) ∧ m ≤ lc ∧ Shut (SymsOf w' nb k c la l (idsOf xs)) ∧ Below W.heap.size W w' := fun W hW =>
    peel_symbols n k nb m a cap c ia ic xs W g hl hcap (ha.below hW (Nat.le_refl _)) (hi.below hW (Nat.le_refl _)) hix hxm (by omega) hic hic2 (hL.below hW)
  have hS2 : ∀ W, Below w.heap.size w W → Calls Tryd.prog 6 #[.agg #[.int .i64 n, .int .i64 k], .slice a n cap, .slice ja m2 jc] W fun e w' =>
      ∃ (la : Option Addr) (lc : Nat) (l : List MSym), e = .returned (.slice la m2 lc) ∧ m2 ≤ lc ∧ Shut (SymsOf w' nb k c la l (idsOf ys)) ∧ Below W.heap.size W w' := fun W hW =>
    peel_symbols n k nb m2 a cap c ja jc ys W g hl hcap (ha.below hW (Nat.le_refl _)) (hj.below hW (Nat.le_refl _)) hjx hym (by omega) hjc hjc2 (hL.below hW)
  have hK1 : ∀ (la : Option Addr) (lc : Nat) (l : List MSym) (W : World), Below w.heap.size w W → SymsOf W nb k c la l (idsOf xs) → Calls Tryd.prog 7 #[.agg #[.int .i64 n, .int .i64 k], .slice la m lc] W fun e w' => ∃ (kb : Nat) (bl : List Blk), e = .returned (.tuple #[.slice (some ⟨kb, 0, none⟩) nb nb, .int .i64 0]) ∧ Shut (KnAt w' kb nb k bl (pkL nb k c (idsOf xs))) ∧ Below W.heap.size W w' := fun la lc l W hW h =>
    peel_of lc g h (idsOf_le xs) hIx (by omega) (hL.below hW)
  have hK2 : ∀ (la : Option Addr) (lc : Nat) (l : List MSym) (W : World), Below w.heap.size w W → SymsOf W nb k c la l (idsOf xs ++ idsOf ys) → Calls Tryd.prog 7 #[.agg #[.int .i64 n, .int .i64 k], .slice la ms lc] W fun e w' => ∃ (kb : Nat) (bl : List Blk), e = .returned (.tuple #[.slice (some ⟨kb, 0, none⟩) nb nb, .int .i64 0]) ∧ Shut (KnAt w' kb nb k bl (pkL nb k c (idsOf xs ++ idsOf ys))) ∧ Below W.heap.size W w' := fun la lc l W hW h =>
    peel_of lc g h (fun i hi => by rcases List.mem_append.1 hi with h | h; exact idsOf_le xs i h; exact idsOf_le ys i h) (by rw [List.length_append, hIx, hIy, hms]) (by omega) (hL.below hW)
  have hDe : ∀ (la : Option Addr) (lc : Nat) (l : List MSym) (W : World), Below w.heap.size w W → SymsOf W nb k c la l (idsOf xs) → Calls Tryd.prog 10 #[.agg #[.int .i64 n, .int .i64 k], .slice la m lc] W fun e w' => ∃ (a' : Option Addr) (c' z : Nat) (code : Int), e = .returned (.tuple #[.slice a' z c', .int .i64 code]) ∧ Shut ((∀ j, j < nb → knw (pkL nb k c (idsOf xs)) j = true) → code = 0 ∧ z = n ∧ Lies w' a' (bs c)) ∧ Below W.heap.size W w' := fun la lc l W hW h => by
    refine (order_decode lc g hl h (idsOf_le xs) hIx (by omega) (hL.below hW)).mono ?_
    rintro e w' ⟨a', c', z, rfl, hr, hb⟩
    refine ⟨a', c', z, _, rfl, ⟨fun hall => ?_⟩, hb⟩
    have h1 := peel_decode g hl (idsOf_le xs) (by omega) (noneK_ok nb k) (noneK_knw nb) hall
    obtain ⟨r, hz, _, hrl, hrc⟩ := hr.out
    have := hrc h1.1
    subst this
    exact ⟨h1.1, by omega, hrl⟩
  have HPT := Shut.mk (pt_of g c (idsOf xs) (idsOf ys))
  have HX := Shut.mk (And.intro hl (And.intro ha (And.intro hL (And.intro hIx hIy))))
  obtain ⟨x0, x1⟩ := cells2 HB.out
  clear hl hcap ha hi hix hxm hic hic2 hL hj hjx hym hjc hjc2 hIx hIy g
  have hsI : ¬ (60 : Int) < (m : Int) + (m2 : Int) := by omega
  go_enter Tryd.func3, Tryd.ntmps3
  go_wp2_with fail
  refine hCt.mono ?_
  rintro e w1 ⟨ba, bl0, rfl, HC, hb1⟩
  replace HB := Shut.mk (blk_below HB.out hb1)
  replace hBl := hBl.trans (hb1.mono hBl.size)
  clear hb1 hCt x0 x1
  have hP := peeled_any w1 (HX.out.2.2.1.below hBl)
  go_wp2_with fail
  refine hP.mono ?_
  rintro e w2 ⟨rfl, hb2⟩
  replace HC := Shut.mk (HC.out.below hb2)
  replace HB := Shut.mk (blk_below HB.out hb2)
  replace hBl := hBl.trans (hb2.mono hBl.size)
  clear hb2 hP
  obtain ⟨x0, x1⟩ := cells2 HB.out
  have hSS := hS1 w2 hBl
  clear hS1
  go_wp2_with fail
  refine hSS.mono ?_
  rintro e w3 ⟨la, lc, l, rfl, hlc, HS, hb3⟩
  replace HC := Shut.mk (HC.out.below hb3)
  replace HB := Shut.mk (blk_below HB.out hb3)
  replace hBl := hBl.trans (hb3.mono hBl.size)
  clear hb3 hSS x0 x1
  obtain ⟨x0, x1⟩ := cells2 HB.out
  have hKK := hK1 la lc l w3 hBl HS.out
  clear hK1
  go_wp2_with fail
  refine hKK.mono ?_
  rintro e w9 ⟨ka, bla, rfl, HA, hb4⟩
  replace HC := Shut.mk (HC.out.below hb4)
  replace HB := Shut.mk (blk_below HB.out hb4)
  replace HS := Shut.mk (HS.out.below hb4)
  replace hBl := hBl.trans (hb4.mono hBl.size)
  clear hb4 hKK x0 x1
  obtain ⟨v4, v5⟩ := cells2 HB.out
  have hLl : l.length = m := by rw [HS.out.2.2.1, HX.out.2.2.2.1]
  have hDf : ∀ (ga lb : Option Addr) (l2 : List MSym) (gc : Nat) (w10 W : World), Below w9.heap.size w9 w10 → SymsOf w10 nb k c lb l2 (idsOf ys) → Below w10.heap.size w10 W → Shut (Lies W ga (symCells (l ++ l2))) → Calls Tryd.prog 7 #[.agg #[.int .i64 n, .int .i64 k], .slice ga ms gc] W fun e w' => ∃ (kb : Nat) (bl : List Blk), e = .returned (.tuple #[.slice (some ⟨kb, 0, none⟩) nb nb, .int .i64 0]) ∧ Shut (KnAt w' kb nb k bl (pkL nb k c (idsOf xs ++ idsOf ys))) ∧ Below W.heap.size W w' := fun ga lb l2 gc w10 W hW hs hW2 hg =>
    hK2 ga gc (l ++ l2) W ((hBl.trans (hW.mono hBl.size)).trans (hW2.mono (hBl.trans (hW.mono hBl.size)).size)) (((HS.out.below hW).below hW2).app (hs.below hW2) hg.out)
  have u0 : w9.drew.cell? ⟨w.heap.size, 0, none⟩ = some (.int .i64 n) := v4
  have u1 : w9.drew.cell? ⟨w.heap.size, 1, none⟩ = some (.int .i64 k) := v5
  have hE1 : Shut (Below w9.heap.size w9 w9.drew) := ⟨(Below.refl _ _).drew⟩
  clear hK2
  go_upto_region 6 with fail
  go_region_held3 (fun w' => w'.cell? ⟨w.heap.size, 0, none⟩ = some (.int .i64 n) ∧ w'.cell? ⟨w.heap.size, 1, none⟩ = some (.int .i64 k)) (first | exact ⟨by assumption, by assumption⟩ | exact ⟨cellA' (by assumption) _, cellA' (by assumption) _⟩) (first | (go_at_call 6; (first | refine (hS2 w9 hBl).mono ?_ | refine (hS2 w9.drew hBl.drew).mono ?_); rintro e w10 ⟨lb, lbc, l2, rfl, hlbc, hs10, hb10⟩; have v6 := cellC (b := w.heap.size) (o := 0) (v := .int .i64 n) (by first | with_reducible exact v4 | with_reducible exact u0) hb10; have v7 := cellC (b := w.heap.size) (o := 1) (v := .int .i64 k) (by first | with_reducible exact v5 | with_reducible exact u1) hb10; have h910 : Below w9.heap.size w9 w10 := (by first | exact hb10 | exact hE1.out.trans (hb10.mono hE1.out.size)); have v6d : w10.drew.cell? ⟨w.heap.size, 0, none⟩ = some (.int .i64 n) := v6; have v7d : w10.drew.cell? ⟨w.heap.size, 1, none⟩ = some (.int .i64 k) := v7) | (go_at_call 8; have hq : ∀ W, Below w10.heap.size w10 W → W.heap[w10.heap.size]? = some (.cells #[.slice la m lc, .slice lb m2 lbc] 31 (0, 0)) → Calls Tryd.prog 8 #[.slice (some ⟨w10.heap.size, 0, none⟩) 2 2] W fun e w' => ∃ (ga : Option Addr) (gc : Nat), e = .returned (.slice ga ms gc) ∧ Shut (Lies w' ga (symCells (l ++ l2))) ∧ Below w10.heap.size w10 w' ∧ Below W.heap.size W w' := (fun W hW hk => (concat2S w10.heap.size m m2 ms lc lbc la lb l l2 W hk ((HS.out.below h910).below hW).1 (hs10.out.below hW).1 hLl (by rw [hs10.out.2.2.1, HX.out.2.2.2.2]) hms (by omega)).mono (by rintro e w' ⟨ga, gc, h1, h2, h3⟩; exact ⟨ga, gc, h1, h2, hW.trans (h3.mono hW.size), h3⟩)); (first | refine (hq (w10.alloc _) ((Below.refl _ _).alloc (Nat.le_refl _) _) ((heap_alloc_eq w10 _ _).trans (if_pos rfl))).mono ?_ | refine (hq (w10.drew.alloc _) ((Below.refl _ _).drew.alloc (Nat.le_refl _) _) ((heap_alloc_eq w10.drew _ _).trans (if_pos rfl))).mono ?_ | refine (hq ((w10.alloc _).drew) (((Below.refl _ _).alloc (Nat.le_refl _) _).drew) ((heap_alloc_eq w10 _ _).trans (if_pos rfl))).mono ?_); clear hq; rintro e w11 ⟨ga2, gc2, rfl, hg11, h1011, hb11⟩; have v8 := cellC (b := w.heap.size) (o := 0) (v := .int .i64 n) v6 h1011; have v9 := cellC (b := w.heap.size) (o := 1) (v := .int .i64 k) v7 h1011) | (go_at_call 7; refine (hDf ga2 lb l2 gc2 w10 w11 h910 hs10.out h1011 hg11).mono ?_; rintro e w12 ⟨kb2, bl2, rfl, HB2, hb12⟩; have vA := cellC (b := w.heap.size) (o := 0) (v := .int .i64 n) v8 hb12; have vB := cellC (b := w.heap.size) (o := 1) (v := .int .i64 k) v9 hb12))
  all_goals
    have h1012 := h1011.trans (hb12.mono h1011.size)
    have h912 := h910.trans (h1012.mono h910.size)
    have hB12 := hBl.trans (h912.mono hBl.size)
    replace HC := Shut.mk (HC.out.below h912)
    replace HB := Shut.mk (blk_below HB.out h912)
    replace HS := Shut.mk (HS.out.below h912)
    replace HA := Shut.mk (HA.out.below h912)
    clear vA vB v8 v9 v6 v7 v6d v7d u0 u1 v4 v5 h1012 h912 h910 h1011 hb12 hb11 hb10 hg11 hs10 hDf hE1 hS2 hBl
    generalize pkL nb k c (idsOf xs ++ idsOf ys) = K2 at *
    generalize hK1e : pkL nb k c (idsOf xs) = K1 at *
    obtain ⟨cb, co, hba⟩ := HC.out.1.some (k := 0) (by simp [HC.out.2.2.1]; omega)
    subst hba
    have HDE := Shut.mk hDe
    clear hDe hK1e
    go_wp2
    go_loopw [15, 70] (fun v i wr => ∃ (j : Nat) (wh : Bool), j ≤ nb ∧ i = .int .i64 j ∧ v = .bool wh ∧ Shut (Below w12.heap.size w12 wr ∧ (wh = true → ∀ t, t < j → knw K1 t = true))) (fun _ i _ => nb - (intOf i).toNat)
    case atStart => exact ⟨0, true, Nat.zero_le _, rfl, rfl, ⟨Below.refl _ _, fun _ t ht => by omega⟩⟩
    case round =>
      obtain ⟨j, wh, hj, rfl, rfl, HI⟩ := hrel
      by_cases hlt : j < nb
      · have hbr := HI.out.1
        obtain ⟨X, xe, xc, xl, xm, xn⟩ := (HA.out.below hbr).at hlt
        obtain ⟨Y, ye, yc, yl, ym, yn⟩ := (HB2.out.below hbr).at hlt
        have hqz : j < bl0.length := by rw [HC.out.2.2.1]; exact hlt
        have zc := (HC.out.1.below hbr (Nat.le_refl _)).at (k := j) (u := bl0[j].val) (by simp [hqz])
        have zl := HC.out.2.1.below hbr bl0[j] (List.getElem_mem hqz)
        have ze := HC.out.2.2.2 j hqz
        have p1 := HPT.out.t1 j
        have p2 := HPT.out.t2 j
        have p3 := HPT.out.le j
        have hkx : knw K1 j = !X.l.isEmpty := by unfold knw; rw [xe]
        have hky : knw K2 j = !Y.l.isEmpty := by unfold knw; rw [ye]
        rw [← xe] at p1
        rw [← ye] at p2
        rw [hkx, hky] at p3
        generalize bl0[j]'hqz = Z at *
        rw [← ze] at p1 p2
        simp only [Blk.val] at zc
        obtain ⟨Xa, Xc, Xl⟩ := X
        obtain ⟨Ya, Yc, Yl⟩ := Y
        obtain ⟨Za, Zc, Zl⟩ := Z
        simp only at xe xc xl xm xn ye yc yl ym yn zc zl ze p1 p2 p3 hkx hky
        have hbF : ∀ q, Below w12.heap.size w12 (wr.drewN q) := fun q => hbr.trans (bdn _ _ _)
        by_cases hX : Xl = []
        · have e0 := xn hX
          injection e0 with e1 e2 e3
          subst e1 e2 e3
          simp only [List.length_nil] at xc
          have hnX : ∀ W : World, (binOp .neq 35 (.slice none 0 0) (.slice none 0 0)).run Tryd.prog W = .ok (.bool false) W := fun W => run_neq_slice_nil_any W 35 5 none 0 0 0 0 Tryd.underlying35
          have HR : Shut (∀ W, Below w12.heap.size w12 W → Shut (Below w12.heap.size w12 W ∧ ((false : Bool) = true → ∀ t, t < j + 1 → knw K1 t = true))) := ⟨fun W hW => ⟨hW, fun e => by cases e⟩⟩
          by_cases hY : Yl = []
          · have e0 := yn hY
            injection e0 with e1 e2 e3
            subst e1 e2 e3
            simp only [List.length_nil] at yc
            clear hX hY xe xl xm xn ye yl ym yn zl ze p1 p2 p3 hkx hky HI hbr
            cases wh
            all_goals
              go_upto_region 14 with fail
              go_quiet (fail)
              replace hbF := hbF nq
              clear xc yc zc hnX
              generalize wr.drewN nq = w5 at *
              go_wp2
              go_roundw
              case rel => exact ⟨j + 1, false, by omega, by go_num, rfl, HR.out _ hbF⟩
              case measure => simp [intOf]; omega
          · obtain ⟨yb, yo, hya⟩ := yl.some (k := 0) (by simpa [bs] using List.length_pos_iff.2 hY)
            subst hya
            have hYZ : Yl = Zl := by rcases p2 with h | h; exact absurd h hY; exact h
            have hnY : ∀ W : World, (binOp .neq 35 (.slice (some ⟨yb, yo, none⟩) Yl.length Yc) (.slice none 0 0)).run Tryd.prog W = .ok (.bool true) W := fun W => run_neq_slice_nil_any W 35 5 (some ⟨yb, yo, none⟩) Yl.length Yc 0 0 Tryd.underlying35
            have hE2 : ∀ q, Calls Tryd.prog 9 #[.slice (some ⟨yb, yo, none⟩) Yl.length Yc, .slice Za Zl.length Zc] (wr.drewN q) fun e w' => e = .returned (.bool true) ∧ ∃ m, w' = (wr.drewN q).drewN m := fun q => by
              have h := equalBlock (w := wr.drewN q) (some ⟨yb, yo, none⟩) Za Yc Zc Yl Zl ym zl.2 (yl.drewN q) (zl.1.drewN q)
              rw [decide_eq_true hYZ] at h
              exact h
            clear hX hY xe xl xm xn ye yl ym yn zl ze p1 p2 p3 hkx hky HI hbr hYZ
            cases wh
            all_goals
              go_upto_region 14 with fail
              go_quiet ((go_at_call 9; exact Calls.quiet_of (hE2 _)))
              replace hbF := hbF nq
              clear xc yc zc hnX hnY hE2
              generalize wr.drewN nq = w5 at *
              go_wp2
              go_roundw
              case rel => exact ⟨j + 1, false, by omega, by go_num, rfl, HR.out _ hbF⟩
              case measure => simp [intOf]; omega
        · have hXk : (!Xl.isEmpty) = true := by simp [hX]
          have hY : Yl ≠ [] := by
            intro e
            have := p3 hXk
            rw [e] at this
            simp at this
          obtain ⟨xb, xo, hxa⟩ := xl.some (k := 0) (by simpa [bs] using List.length_pos_iff.2 hX)
          subst hxa
          obtain ⟨yb, yo, hya⟩ := yl.some (k := 0) (by simpa [bs] using List.length_pos_iff.2 hY)
          subst hya
          have hXZ : Xl = Zl := by rcases p1 with h | h; exact absurd h hX; exact h
          have hYZ : Yl = Zl := by rcases p2 with h | h; exact absurd h hY; exact h
          have hnX : ∀ W : World, (binOp .neq 35 (.slice (some ⟨xb, xo, none⟩) Xl.length Xc) (.slice none 0 0)).run Tryd.prog W = .ok (.bool true) W := fun W => run_neq_slice_nil_any W 35 5 (some ⟨xb, xo, none⟩) Xl.length Xc 0 0 Tryd.underlying35
          have hnY : ∀ W : World, (binOp .neq 35 (.slice (some ⟨yb, yo, none⟩) Yl.length Yc) (.slice none 0 0)).run Tryd.prog W = .ok (.bool true) W := fun W => run_neq_slice_nil_any W 35 5 (some ⟨yb, yo, none⟩) Yl.length Yc 0 0 Tryd.underlying35
          have hqY : ∀ W : World, (binOp .eql 35 (.slice (some ⟨yb, yo, none⟩) Yl.length Yc) (.slice none 0 0)).run Tryd.prog W = .ok (.bool false) W := fun W => Lib.run_eql_slice_nil W 35 5 (some ⟨yb, yo, none⟩) Yl.length Yc 0 0 Tryd.underlying35
          have hE1 : ∀ q, Calls Tryd.prog 9 #[.slice (some ⟨xb, xo, none⟩) Xl.length Xc, .slice Za Zl.length Zc] (wr.drewN q) fun e w' => e = .returned (.bool true) ∧ ∃ m, w' = (wr.drewN q).drewN m := fun q => by
            have h := equalBlock (w := wr.drewN q) (some ⟨xb, xo, none⟩) Za Xc Zc Xl Zl xm zl.2 (xl.drewN q) (zl.1.drewN q)
            rw [decide_eq_true hXZ] at h
            exact h
          have hE2 : ∀ q, Calls Tryd.prog 9 #[.slice (some ⟨yb, yo, none⟩) Yl.length Yc, .slice Za Zl.length Zc] (wr.drewN q) fun e w' => e = .returned (.bool true) ∧ ∃ m, w' = (wr.drewN q).drewN m := fun q => by
            have h := equalBlock (w := wr.drewN q) (some ⟨yb, yo, none⟩) Za Yc Zc Yl Zl ym zl.2 (yl.drewN q) (zl.1.drewN q)
            rw [decide_eq_true hYZ] at h
            exact h
          have HR : Shut (∀ W, Below w12.heap.size w12 W → Shut (Below w12.heap.size w12 W ∧ (wh = true → ∀ t, t < j + 1 → knw K1 t = true))) := ⟨fun W hW => ⟨hW, fun e t ht => by
            by_cases e2 : t = j
            · subst e2; rw [hkx]; exact hXk
            · exact HI.out.2 e t (by omega)⟩⟩
          clear hX hY xe xl xm xn ye yl ym yn zl ze p1 p2 p3 hkx hky HI hbr hYZ hXZ hXk
          cases wh
          · go_upto_region 14 with fail
            go_quiet ((go_at_call 9; first | with_reducible exact Calls.quiet_of (hE1 _) | with_reducible exact Calls.quiet_of (hE2 _)))
            replace hbF := hbF nq
            clear xc yc zc hnX hnY hE2 hE1 hqY
            generalize wr.drewN nq = w5 at *
            go_wp2
            go_roundw
            case rel => exact ⟨j + 1, false, by omega, by go_num, rfl, HR.out _ hbF⟩
            case measure => simp [intOf]; omega
          · go_upto_region 14 with fail
            go_quiet ((go_at_call 9; first | with_reducible exact Calls.quiet_of (hE1 _) | with_reducible exact Calls.quiet_of (hE2 _)))
            replace hbF := hbF nq
            clear xc yc zc hnX hnY hE2 hE1 hqY
            generalize wr.drewN nq = w5 at *
            go_wp2
            go_roundw
            case rel => exact ⟨j + 1, true, by omega, by go_num, rfl, HR.out _ hbF⟩
            case measure => simp [intOf]; omega
      · obtain rfl : j = nb := by omega
        have hbr := HI.out.1
        have hBr := hB12.trans (hbr.mono hB12.size)
        obtain ⟨x0, x1⟩ := cells2 (blk_below HB.out hbr)
        have hD := HDE.out la lc l wr hBr (HS.out.below hbr)
        go_wp2_with fail
        refine hD.mono ?_
        rintro e w6 ⟨a6, c6, z6, code6, rfl, H6, hb6⟩
        replace hBr := hBr.trans (hb6.mono hBr.size)
        clear hD hb6 x0 x1
        cases wh
        · go_wp2
          go_ret
          exact ⟨rfl, hBr⟩
        · obtain ⟨e1, e2, hl6⟩ := H6.out (HI.out.2 rfl)
          subst e1 e2
          have hE := equalBytes (w := w6) a6 a c6 cap c c (by rw [HX.out.1]; unfold maxLen; omega) (by rw [HX.out.1]; unfold maxLen; omega) hl6 (HX.out.2.1.below hBr (Nat.le_refl _))
          rw [HX.out.1, decide_eq_true rfl] at hE
          clear hl6 H6
          go_wp2_with fail
          refine hE.mono ?_
          rintro e w7 ⟨rfl, nn, rfl⟩
          have h7 := hBr.trans (bdn w6 nn w.heap.size)
          clear hE
          go_wp2
          go_ret
          exact ⟨rfl, h7⟩

theorem W_peelTrue (B K : Int) (a : Option Addr) (cap : Nat) (c : List UInt8) (ia : Option Addr) (ic : Nat) (xs : List Int) (ja : Option Addr) (jc : Nat) (ys : List Int) (w : World) (hB : I64 B) (hK : I64 K) (hm : c.length ≤ maxLen) (hcap : c.length ≤ cap) (ha : Lies w a (bs c)) (hi : Lies w ia (xs.map (Value.int .i64))) (hix : ∀ x ∈ xs, I64 x) (hic : xs.length ≤ ic) (hic2 : ic ≤ maxLen) (hsx : xs.length ≤ 2 ^ 60) (hj : Lies w ja (ys.map (Value.int .i64))) (hjx : ∀ x ∈ ys, I64 x) (hjc : ys.length ≤ jc) (hjc2 : jc ≤ maxLen) (hsy : ys.length ≤ 2 ^ 60) (hL : Laid w) :
    Calls Tryd.prog 3 #[.agg #[.int .i64 B, .int .i64 K], .slice a c.length cap, .slice ia xs.length ic, .slice ja ys.length jc] w fun e w' => e = .returned (.bool true) ∧ Below w.heap.size w w' := by
  by_cases h0 : cutCode B K c = 0
  · by_cases hs : xs.length + ys.length ≤ 60
    · obtain ⟨n, k, nb, g, hcn⟩ := cutCode_zero h0
      obtain rfl := g.eB
      obtain rfl := g.eK
      have h := true_good n k nb xs.length ys.length _ a cap c ia ic xs ja jc ys w g hcn (by omega) ha hi hix rfl hic hic2 hj hjx rfl hjc hjc2 hs rfl hL
      rw [← hcn] at h ⊢
      exact h
    · exact true_out B K xs.length ys.length a cap c ia ja ic jc _ w rfl (.inr (by omega)) hsx hsy hB hK hm hcap ha hL
  · exact true_out B K xs.length ys.length a cap c ia ja ic jc _ w rfl (.inl h0) hsx hsy hB hK hm hcap ha hL

end Go.Proofs.YtkiejflgphjfjadDoor

/-
  What came in, opened: byte slices and slices of byte slices, whatever their readings are. Nothing of any program.
-/
namespace Go.Proofs.YtkiejflgphjfjadDoor
open Go.ChangeShapes Go.WideShapes Go.ChangeAt Go.RowKit
set_option linter.unusedVariables false
set_option linter.unusedSimpArgs false

section
variable {H : Type} {enc : TypeId × Value → H} {P : Program} {w : World} {held : Bool}

theorem u8_of_wf {n : Int} (h : (Lit.int .u8 n).wf = true) : 0 ≤ n ∧ n < 256 := by
  have : 0 ≤ n ∧ n ≤ 255 := by simpa [Lit.wf, IntKind.min, IntKind.max, IntKind.signed, IntKind.bits] using h
  omega

/-- an address of cells has no spot of its own -/
theorem lies_addr {a : Addr} {k : Nat} {u u0 : Value} (h0 : w.cell? (a.add 0) = some u0) (hk : w.cell? (a.add k) = some u) : ∃ b off, some a = some (⟨b, off, none⟩ : Addr) ∧ w.cell? ⟨b, off + k, none⟩ = some u := by
  obtain ⟨b, off, spot⟩ := a
  have hspot : spot = none := by simpa [Addr.add] using World.cell?_spot h0
  subst hspot
  exact ⟨b, off, rfl, by simpa [Addr.add_lit] using hk⟩

theorem open_bytes {t e : TypeId} {fuel : Nat} {v : Value} {x : DataW H × List MemPlace} (ht : P.underlying t = some (.slice e)) (he : P.underlying e = some (.int .u8)) (hc : P.cellsOf e = 1)
    (h : DataW.trod enc P w 0 (fun _ => true) held fuel t [v] = some x) : ∃ a cap l, v = .slice a l.length cap ∧ Lies w a (bs l) ∧ l.length ≤ maxLen := by
  rcases open_ints ht he hc h with ⟨hcs, _⟩ | ⟨a, len, cap, zs, hcs, _, hl, hm, hz, _, hcell, hwz⟩
  · simp at hcs
    subst hcs
    exact ⟨none, 0, [], rfl, Lies.nil _ _, by simp⟩
  · simp at hcs hz
    subst hcs
    refine ⟨some a, cap, (zs.take len).map fun z => UInt8.ofNat z.toNat, ?_, ?_, ?_⟩
    · simp; omega
    · intro k u hu
      have hk : k < len := by
        obtain ⟨hk, _⟩ := List.getElem?_eq_some_iff.1 hu
        simp [bs] at hk
        omega
      have hkz : k < zs.length := by omega
      have hcl := hcell k hkz
      have hwf := u8_of_wf (hwz zs[k] (by simp))
      have hu' : u = .int .u8 (zs[k]) := by
        simp [bs, hk, hkz] at hu
        rw [← hu]
        congr 1
        omega
      subst hu'
      have e2 : zs.getD k 0 = zs[k] := by simp [List.getD, hkz]
      rw [e2] at hcl
      exact lies_addr (hcell 0 (by omega)) hcl
    · simp; omega

theorem open_blocks {t e e8 : TypeId} {fuel : Nat} {v : Value} {d : DataW H} {ps : List MemPlace} (ht : P.underlying t = some (.slice e)) (hte : P.underlying e = some (.slice e8)) (he : P.underlying e8 = some (.int .u8)) (hc : P.cellsOf e = 1) (hc8 : P.cellsOf e8 = 1)
    (h : DataW.trod enc P w 0 (fun _ => true) held fuel t [v] = some (d, ps)) :
    ∃ a cap bl, v = .slice a bl.length cap ∧ Lies w a (bl.map Blk.val) ∧ AllIn w bl ∧ bl.length ≤ maxLen ∧ ((d = .nil ∧ bl = []) ∨ ∃ elems sp, d = .slice elems sp ∧ elems.length = bl.length) := by
  rcases Go.Deep.open_slice1 ht hc h with ⟨hcs, hx⟩ | ⟨a, len, cap, m, n, V, D, Pl, hcs, _, hl, hm, hmm, hx, hcell⟩
  · simp at hcs hx
    subst hcs
    exact ⟨none, 0, [], rfl, Lies.nil _ _, (fun b hb => by simp at hb), by simp, .inl ⟨hx.1, rfl⟩⟩
  · simp at hcs hx hmm
    subst hcs hmm
    have hb : ∀ i, i < m → ∃ b : Blk, V i = b.val ∧ Lies w b.a (bs b.l) ∧ b.l.length ≤ maxLen := fun i hi => by
      obtain ⟨a', cap', l, e1, e2, e3⟩ := open_bytes hte he hc8 (hcell i hi).2
      exact ⟨⟨a', cap', l⟩, e1, e2, e3⟩
    have : Inhabited Blk := ⟨⟨none, 0, []⟩⟩
    obtain ⟨B, hB⟩ := Go.Deep.choose_lt hb
    refine ⟨some a, m, (List.range len).map B, by simp, ?_, ?_, by simp; omega, .inr ⟨_, _, hx.1, by simp⟩⟩
    · intro k u hu
      have hk : k < len := by
        obtain ⟨hk, _⟩ := List.getElem?_eq_some_iff.1 hu
        simpa using hk
      have hu' : u = V k := by
        simp [hk] at hu
        rw [← hu, (hB k (by omega)).1]
      subst hu'
      exact lies_addr (hcell 0 (by omega)).1 (hcell k (by omega)).1
    · intro b hb
      obtain ⟨i, hi, rfl⟩ := List.mem_map.1 hb
      exact (hB i (by simp at hi; omega)).2
end
end Go.Proofs.YtkiejflgphjfjadDoor
