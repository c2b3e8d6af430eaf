import Derived.Test.YtpmgmddicbpgjaaDoorPart8
import Derived.Test.YtpmgmddicbpgjaaDoorPart11
import Derived.Test.YtpmgmddicbpgjaaDoorPart31
import Derived.Test.YtpmgmddicbpgjaaDoorPart2
import Derived.Deep.CutBlock
import Derived.Test.YtpmgmddicbpgjaaDoorPart32
import Derived.Test.YtpmgmddicbpgjaaDoorPart20
import Derived.Deep.RegionHeld3
import Derived.Test.YtpmgmddicbpgjaaDoorPart9
import Derived.Maps.OwnSet
import Derived.Maps.Views
import Derived.DeepKeys4
/-
  Chapter 5's Decode, pure: symbols of a cargo, in whatever order; when all is known; a byte that is turned.
-/
namespace Go.Proofs.YtpmgmddicbpgjaaDoor
open Go.RowKit
set_option linter.unusedVariables false
set_option linter.unusedSimpArgs false

theorem allL_some {B K : Int} {n k nb : Nat} (g : Good B K n k nb) : ∀ {l : List LSym} {A P : List LRow}, Right nb k A → allL B K nb A l = (0, P) → addAll A (l.map (rowOf nb)) = some P ∧ ∀ y ∈ l, y.2.length = k := by
  intro l
  induction l with
  | nil => intro A P _ h; simp only [allL, Prod.mk.injEq, true_and] at h; subst h; exact ⟨rfl, fun y hy => by cases hy⟩
  | cons y l ih =>
    intro A P hA h
    by_cases h0 : (stepL B K nb A y).1 = 0
    · rw [allL_go h0] at h
      obtain ⟨e1, e2, e3⟩ := stepL_right g hA h0
      obtain ⟨p1, p2⟩ := ih e3 h
      refine ⟨?_, fun z hz => ?_⟩
      · simp only [List.map_cons, addAll, e1, Option.bind_some]
        exact p1
      · rcases List.mem_cons.1 hz with rfl | hz
        · exact e2
        · exact p2 z hz
    · rw [allL_bad h0] at h
      exact absurd (congrArg Prod.fst h) h0

theorem allL_of {B K : Int} {n k nb : Nat} (g : Good B K n k nb) : ∀ {l : List LSym} {A P : List LRow}, (∀ y ∈ l, chkS B K y.1 y.2.length = 0) → addAll A (l.map (rowOf nb)) = some P → allL B K nb A l = (0, P) := by
  intro l
  induction l with
  | nil => intro A P _ h; simp only [List.map_nil, addAll, Option.some.injEq] at h; subst h; rfl
  | cons y l ih =>
    intro A P hl h
    simp only [List.map_cons, addAll] at h
    cases ha : addL A (rowOf nb y) with
    | none => rw [ha] at h; cases h
    | some Q =>
      rw [ha] at h
      have hs := stepL_ok (hl y List.mem_cons_self) ha
      rw [allL_go (by rw [hs]), hs]
      exact ih (fun z hz => hl z (List.mem_cons_of_mem _ hz)) h

/-- a symbol of a cargo -/
noncomputable def symOf (nb k : Nat) (c : List UInt8) (i : Nat) : LSym := ((i : Int), symL nb k c i)

theorem symOf_row (nb k : Nat) (c : List UInt8) (i : Nat) : rowOf nb (symOf nb k c i) = symRow nb k c i := by simp [rowOf, symOf, symRow]

theorem symOf_chk {B K : Int} {n k nb i : Nat} (g : Good B K n k nb) (c : List UInt8) (hi : i ≤ 9999) : chkS B K (symOf nb k c i).1 (symOf nb k c i).2.length = 0 := by
  refine chkS_ok (chkP_good g) (by simp only [symOf]; omega) ?_
  simp only [symOf, symL_length]
  exact g.eK.symm

/-- all rows there are: each has one block alone -/
theorem full_units {nb k : Nat} {P : List LRow} (hP : Right nb k P) (hl : P.length = nb) {j : Nat} (hj : j < P.length) : P[j].1.count true = 1 ∧ firstI P[j].1 = j := by
  have hu := hP.sys.units hP.of (by simpa using hl) j (by simpa using hj)
  simp only [List.getElem_map] at hu
  have hlead : Lead (LRow.v P[j]) j := ⟨by rw [hu j]; simp, fun i hi => by rw [hu i]; simp; omega⟩
  have hf := firstI_lead.2 hlead
  refine ⟨?_, hf⟩
  rw [count_one hf]
  intro hm
  obtain ⟨i, hi, he⟩ := List.getElem_of_mem hm
  rw [List.getElem_drop] at he
  have hlt : j + 1 + i < P[j].1.length := by simp at hi; omega
  have h := hu (j + 1 + i)
  rw [LRow.v_has hlt, he, decide_eq_false (by omega)] at h
  cases h

/-- all that is known, where all rows are there -/
theorem full_known {nb k : Nat} {P : List LRow} (hP : Right nb k P) (hl : P.length = nb) : knownL nb P = P.map Prod.snd := by
  apply List.ext_getElem?
  intro j
  by_cases hj : j < nb
  · have hj' : j < P.length := by omega
    obtain ⟨h1, h2⟩ := full_units hP hl hj'
    rw [known_has hP (List.getElem_mem hj') hj h1 h2]
    simp [hj']
  · rw [List.getElem?_eq_none (by rw [knownL_length]; omega), List.getElem?_eq_none (by simp; omega)]

theorem piece_of {k j : Nat} {c d : List UInt8} (hd : d.length = k) (h : ∀ i, d.getD i 0 = blkAt k c j i) : d = piece k j c := by
  apply List.ext_getElem (by rw [hd, piece_length])
  intro i h1 h2
  have := h i
  rw [List.getD_eq_getElem?_getD, List.getElem?_eq_getElem h1] at this
  unfold blkAt at this
  rw [List.getD_eq_getElem?_getD, List.getElem?_eq_getElem h2] at this
  simpa using this

/-- of true rows: all is known, and it is the cargo's blocks -/
theorem full_true {nb k : Nat} {c : List UInt8} {P : List LRow} (hP : Right nb k P) (hl : P.length = nb) (hT : ∀ s ∈ P, Tr nb (blkAt k c) (LRow.v s)) : knownL nb P = cutL nb k c := by
  rw [full_known hP hl]
  apply List.ext_getElem
  · simp [cutL_length, hl]
  · intro j h1 h2
    have hj : j < P.length := by simpa using h1
    obtain ⟨u1, u2⟩ := full_units hP hl hj
    have hu := unit_has u1 u2
    have h := (hT _ (List.getElem_mem hj)).one (by omega) hu
    simp only [List.getElem_map, cutL, List.getElem_range]
    exact piece_of (hP.fits _ (List.getElem_mem hj)).2 h

/-- the rows of symbols of a cargo -/
theorem sym_rows {B K : Int} {n k nb : Nat} (g : Good B K n k nb) (c : List UInt8) (ids : List Nat) (hi : ∀ i ∈ ids, i ≤ 9999) : ∃ P, addAll [] (ids.map (symRow nb k c)) = some P ∧ Right nb k P ∧ (∀ v, Span (P.map LRow.v) v ↔ Span ((ids.map (symRow nb k c)).map LRow.v) v) ∧ (∀ s ∈ P, Tr nb (blkAt k c) (LRow.v s)) ∧
    allL B K nb [] (ids.map (symOf nb k c)) = (0, P) := by
  have hR0 : Right nb k [] := ⟨g.b1, g.b2, g.k1, g.k2, (fun r hr => by cases hr), Sys.nil⟩
  have hfit : ∀ r ∈ ids.map (symRow nb k c), Fits nb k r ∧ Tr nb (blkAt k c) (LRow.v r) := fun r hr => by
    obtain ⟨i, _, rfl⟩ := List.mem_map.1 hr
    exact ⟨symRow_fits nb k c i, symRow_true g.b1 g.b2⟩
  obtain ⟨P, hP, hT⟩ := addAll_true (B := blkAt k c) hR0 (fun s hs => by cases hs) hfit
  obtain ⟨p1, p2⟩ := addAll_right hR0 (fun r hr => (hfit r hr).1) hP
  refine ⟨P, hP, p1, by simpa using p2, hT, ?_⟩
  refine allL_of g (fun y hy => ?_) ?_
  · obtain ⟨i, hi', rfl⟩ := List.mem_map.1 hy
    exact symOf_chk g c (hi i hi')
  · rw [List.map_map]
    have e : (rowOf nb ∘ symOf nb k c) = symRow nb k c := funext fun i => symOf_row nb k c i
    rw [e]
    exact hP

theorem nB_good {B K : Int} {n k nb : Nat} (g : Good B K n k nb) : (nB B K).toNat = nb := by rw [g.eN]; simp

/-- what Decode answers of symbols of a cargo -/
theorem dec_true {B K : Int} {n k nb : Nat} (g : Good B K n k nb) {c : List UInt8} (hc : c.length = n) {ids : List Nat} (hi : ∀ i ∈ ids, i ≤ 9999) (hl : ids.length ≤ 60) {P : List LRow} (hP : addAll [] (ids.map (symRow nb k c)) = some P) :
    (P.length < nb ∧ decCode B K (ids.map (symOf nb k c)) = 8 ∧ decRes B K (ids.map (symOf nb k c)) = []) ∨ (P.length = nb ∧ decCode B K (ids.map (symOf nb k c)) = 0 ∧ decRes B K (ids.map (symOf nb k c)) = c) := by
  obtain ⟨P', hP', hR, hS, hT, hA⟩ := sym_rows g c ids hi
  rw [hP] at hP'
  cases hP'
  have hfew := hR.few
  have e0 : ¬ (chkP B K ≠ 0) := by rw [chkP_good g]; simp
  have e1 : ¬ 60 < (ids.map (symOf nb k c)).length := by simp; omega
  have e2 : ¬ ((0 : Int) ≠ 0) := by simp
  unfold decCode decRes
  rw [if_neg e0, if_neg e1, if_neg e0, if_neg e1, nB_good g, hA]
  simp only [if_neg e2]
  by_cases h : P.length < nb
  · exact .inl ⟨h, if_pos h, if_pos h⟩
  · have hn : P.length = nb := by omega
    have hk := full_true hR hn hT
    obtain ⟨c1, c2⟩ := cutCode_good g hc
    obtain ⟨j1, j2⟩ := join_cut c1
    rw [c2] at j1 j2
    refine .inr ⟨hn, ?_, ?_⟩
    · rw [if_neg h, hk]; exact j1
    · rw [if_neg h, hk]; exact j2

/-- where others say as much, there are as many rows -/
theorem full_more {nb k : Nat} {P Q : List LRow} (hP : Right nb k P) (hQ : Right nb k Q) (hl : P.length = nb) (h : ∀ v, Span (P.map LRow.v) v → Span (Q.map LRow.v) v) : Q.length = nb := by
  have := hQ.sys.full hQ.of fun j hj => by
    have hj' : j < P.length := by omega
    obtain ⟨u1, u2⟩ := full_units hP hl hj'
    exact ⟨LRow.v P[j], h _ (.mem (List.mem_map_of_mem (List.getElem_mem hj'))), firstI_lead.1 u2⟩
  simpa using this

/-- the first symbols are enough -/
theorem first_enough {B K : Int} {n k nb : Nat} (g : Good B K n k nb) (c : List UInt8) {ids : List Nat} {P : List LRow} (hR : Right nb k P) (hS : ∀ v, Span (P.map LRow.v) v ↔ Span ((ids.map (symRow nb k c)).map LRow.v) v) (h : ∀ j, j < nb → j ∈ ids) : P.length = nb := by
  have := hR.sys.full hR.of fun j hj => by
    refine ⟨LRow.v (symRow nb k c j), (hS _).2 (.mem (List.mem_map_of_mem (List.mem_map_of_mem (h j hj)))), ?_⟩
    have e : ∀ i, (LRow.v (symRow nb k c j)).has i = decide (i = j) := fun i => by
      unfold symRow
      rw [maskL_has _ g.b1 g.b2, chosen_low hj]
      simp [mask]
    exact ⟨by rw [e]; simp, fun i hi => by rw [e]; simp; omega⟩
  simpa using this

/-- a symbol with its first byte turned is never of the cargo -/
theorem never_turned {B K : Int} {n k nb : Nat} (g : Good B K n k nb) {c : List UInt8} {l : List LSym} {i : Nat} {d : List UInt8} (hm : ((i : Int), d) ∈ l) (hd : d.getD 0 0 ≠ (symL nb k c i).getD 0 0) (h0 : decCode B K l = 0) (h1 : decRes B K l = c) : False := by
  have hR0 : Right nb k [] := ⟨g.b1, g.b2, g.k1, g.k2, (fun r hr => by cases hr), Sys.nil⟩
  have e0 : ¬ (chkP B K ≠ 0) := by rw [chkP_good g]; simp
  unfold decCode at h0
  unfold decRes at h1
  rw [if_neg e0] at h0 h1
  by_cases h60 : 60 < l.length
  · rw [if_pos h60] at h0; cases h0
  rw [if_neg h60, nB_good g] at h0 h1
  by_cases ha : (allL B K nb [] l).1 = 0
  · rw [if_neg (by rw [ha]; simp)] at h0 h1
    by_cases hlt : (allL B K nb [] l).2.length < nb
    · rw [if_pos hlt] at h0; cases h0
    rw [if_neg hlt] at h0 h1
    obtain ⟨P, hP⟩ : ∃ P, allL B K nb [] l = (0, P) := ⟨(allL B K nb [] l).2, by rw [← ha]⟩
    rw [hP] at h0 h1 hlt
    simp only at h0 h1 hlt
    obtain ⟨a1, a2⟩ := allL_some g hR0 hP
    obtain ⟨r1, r2⟩ := addAll_right hR0 (fun r hr => by
      obtain ⟨y, hy, rfl⟩ := List.mem_map.1 hr
      exact rowOf_fits (a2 y hy)) a1
    have hn : P.length = nb := by have := r1.few; omega
    obtain ⟨c1, c2⟩ := cut_join h0
    rw [h1] at c1 c2
    have hcl : c.length = n := by
      obtain ⟨n', k', nb', g', e'⟩ := cutCode_zero c1
      have := g.eB
      have := g'.eB
      omega
    rw [(cutCode_good g hcl).2, full_known r1 hn] at c2
    have hT : ∀ s ∈ P, Tr nb (blkAt k c) (LRow.v s) := by
      intro s hs
      obtain ⟨j, hj, rfl⟩ := List.getElem_of_mem hs
      obtain ⟨u1, u2⟩ := full_units r1 hn hj
      have hu := unit_has u1 u2
      intro t
      rw [sumAt_one hu, if_pos (by omega)]
      have e : P[j].2 = piece k j c := by
        have := congrArg (fun x => x[j]?) c2
        simp only [List.getElem?_map, List.getElem?_eq_getElem hj, Option.map_some, cutL_get c (show j < nb by omega), Option.some.injEq] at this
        exact this.symm
      show P[j].2.getD t 0 = blkAt k c j t
      rw [e]
      rfl
    have hsp : Span (P.map LRow.v) (LRow.v (rowOf nb ((i : Int), d))) := (r2 _).2 (.mem (by
      simp only [List.nil_append]
      exact List.mem_map_of_mem (List.mem_map_of_mem hm)))
    have ht := (hsp.tr fun s hs => by
      obtain ⟨t, ht, rfl⟩ := List.mem_map.1 hs
      exact hT t ht) 0
    have hs := symRow_true (k := k) (c := c) (i := i) g.b1 g.b2 0
    have e1 : (LRow.v (rowOf nb ((i : Int), d))).has = (LRow.v (symRow nb k c i)).has := by
      funext j
      show (maskL nb ((i : Int)).toNat).getD j false = (maskL nb i).getD j false
      simp
    rw [e1, ← hs] at ht
    exact hd ht
  · rw [if_pos ha] at h0
    exact ha h0

end Go.Proofs.YtpmgmddicbpgjaaDoor

/-
  Chapter 9, of no program: the places of the law's closed fact.
-/
namespace Go.Proofs.YtpmgmddicbpgjaaDoor
open Go.RowKit
set_option linter.unusedVariables false
set_option linter.unusedSimpArgs false

/-- two symbols of a cargo of two bytes, one each -/
theorem held_dec : decCode 2 1 [(0, [7]), (1, [8])] = 0 ∧ decRes 2 1 [(0, [7]), (1, [8])] = [7, 8] := by
  have g : Good 2 1 2 1 2 := ⟨rfl, rfl, by decide, by decide, by decide, by decide, by decide, by decide, by decide, by decide, by decide⟩
  have hs : ([0, 1] : List Nat).map (symOf 2 1 [7, 8]) = [(0, [7]), (1, [8])] := by
    have h0 : symL 2 1 [7, 8] 0 = [7] := by unfold symL; rw [chosen_low (by decide)]; rfl
    have h1 : symL 2 1 [7, 8] 1 = [8] := by unfold symL; rw [chosen_low (by decide)]; rfl
    simp [symOf, h0, h1]
  have hi : ∀ i ∈ ([0, 1] : List Nat), i ≤ 9999 := by intro i hi; simp at hi; omega
  obtain ⟨P, hP, hR, hS, hT, hA⟩ := sym_rows g [7, 8] [0, 1] hi
  have hl := first_enough g [7, 8] hR hS (by intro j hj; simp; omega)
  rcases dec_true g (c := [7, 8]) rfl hi (by simp) hP with ⟨h, _⟩ | ⟨_, h1, h2⟩
  · omega
  · rw [hs] at h1 h2
    exact ⟨h1, h2⟩

def hdH : Hd := ⟨1, 0, 2, 50, 2, 1⟩
def rcH1 : Rc := ⟨2, 0, 0, 0, hdH, 0, [7], []⟩
def rcH2 : Rc := ⟨2, 0, 0, 0, hdH, 1, [8], []⟩
def rcH3 : Rc := ⟨6, 1, 4, 1, hdH, 0, [], []⟩
def rcH4 (b : UInt8) : Rc := ⟨3, 0, 0, 0, hdH, 0, [], [7, b]⟩
def rcH5 : Rc := ⟨8, 0, 50, 0, ⟨0, 0, 0, 0, 0, 0⟩, 0, [], []⟩

def kpH (s : Int) : Kp := { kp0 hdH with ss := [(0, [7]), (1, [8])], sh := s, tk := if s = 4 then [(1, 1)] else [] }
def plH1 : Pl := ⟨2, [{ kp0 hdH with ss := [(0, [7])] }], 0, 0⟩
def plH2 : Pl := ⟨2, [kpH 0], 0, 0⟩
def plH3 : Pl := ⟨2, [kpH 4], 0, 0⟩

theorem next_of {P Q : Pl} {r : Rc} (h1 : P.code = 0) (h2 : r.code = 0) (h3 : P.does r = (0, Q)) : P.nextCode r = 0 ∧ P.next r = Q := by
  have e : P.nextCode r = 0 := by unfold Pl.nextCode; rw [if_neg (fun e => e h1), if_neg (fun e => e h2), h3]
  exact ⟨e, by unfold Pl.next; rw [if_pos e, h3]⟩

theorem held1 : (plNew 2).nextCode rcH1 = 0 ∧ (plNew 2).next rcH1 = plH1 := by
  refine next_of (by rfl) (by rfl) ?_
  unfold Pl.does
  rw [if_neg (by decide), if_neg (by decide), if_neg (by decide)]
  unfold Kp.does
  rfl

theorem bundle_one {P : Pl} {k : Kp} {r : Rc} (hP : P.kp = [k]) (hk : k.h = hdH) (hr : r.h = hdH) (ht : ¬ (50 : Int) ≤ P.tm) : P.bundle r = (0, P.kp, 0) := by
  have hf : findL P.kp r.h.F r.h.Q = some 0 := by rw [hP, hr]; unfold findL; simp [hk]
  unfold Pl.bundle
  rw [hf]
  simp only
  rw [if_neg (by rw [hr]; exact ht), if_neg (by rw [hP, hr]; simp [hk])]

theorem does_one {P : Pl} {k : Kp} {r : Rc} (hP : P.kp = [k]) (hk : k.h = hdH) (hr : r.h = hdH) (ht : ¬ (50 : Int) ≤ P.tm) (k1 : r.k ≠ 1) (k8 : r.k ≠ 8) : P.does r = ((k.does P.me r).1, ⟨P.me, [(k.does P.me r).2], P.tm, P.sq⟩) := by
  have hb := bundle_one hP hk hr ht
  rw [does_of (k := k) k1 k8 (by rw [hb]) (by rw [hb, hP]; rfl), hb, hP]
  rfl

theorem held2 : plH1.nextCode rcH2 = 0 ∧ plH1.next rcH2 = plH2 := by
  refine next_of (by rfl) (by rfl) ?_
  rw [does_one (k := { kp0 hdH with ss := [(0, [7])] }) rfl rfl rfl (by decide) (by decide) (by decide)]
  unfold Kp.does
  rfl

theorem held3 : plH2.nextCode rcH3 = 0 ∧ plH2.next rcH3 = plH3 := by
  refine next_of (by rfl) (by rfl) ?_
  rw [does_one (k := kpH 0) rfl rfl rfl (by decide) (by decide) (by decide)]
  unfold Kp.does
  rw [if_neg (by decide), if_neg (by decide), if_neg (by decide), if_neg (by decide), if_neg (by decide), if_pos (by decide)]
  unfold Kp.take
  rw [if_neg (by decide), if_neg (by decide), if_neg (by decide)]
  rfl

/-- the place behind the delivery -/
def plH4 : Pl := ⟨2, [({ kpH 4 with dl := true } : Kp).over], 0, 0⟩

theorem held4 : plH3.nextCode (rcH4 8) = 0 ∧ plH3.next (rcH4 8) = plH4 := by
  refine next_of (by rfl) (by rfl) ?_
  rw [does_one (k := kpH 4) rfl rfl rfl (by decide) (by decide) (by decide)]
  unfold Kp.does
  rw [if_neg (by decide), if_pos (by decide)]
  unfold Kp.deliver
  have h := held_dec
  rw [if_neg (by decide), if_neg (by decide), if_neg (fun e => e h.1), if_neg (fun e => e h.2)]
  rfl

theorem held5 : plH3.nextCode (rcH4 9) = 9 := by
  have e : plH3.does (rcH4 9) = (9, plH3) := by
    rw [does_one (k := kpH 4) rfl rfl rfl (by decide) (by decide) (by decide)]
    unfold Kp.does
    rw [if_neg (by decide), if_pos (by decide)]
    unfold Kp.deliver
    have h := held_dec
    rw [if_neg (by decide), if_neg (by decide), if_neg (fun e => e h.1), if_pos (fun e => by have := h.2.symm.trans e; revert this; decide)]
    rfl
  unfold Pl.nextCode
  rw [if_neg (fun e => e rfl), if_neg (fun e => e rfl), e]

def plH6 : Pl := ⟨2, [], 50, 0⟩

theorem held6 : plH4.nextCode rcH5 = 0 ∧ plH4.next rcH5 = plH6 := by
  refine next_of (by rfl) (by unfold Rc.code; rw [← ownCode_rec]; simp [ownCode, needless, rcH5, inK]) ?_
  unfold Pl.does
  rw [if_neg (by decide), if_pos (by decide)]
  rfl

theorem held_repl : repl (plNew 2) [rcH1, rcH2, rcH3] = (0, plH3) := by
  rw [repl, if_neg (fun e => e held1.1), held1.2, repl, if_neg (fun e => e held2.1), held2.2, repl, if_neg (fun e => e held3.1), held3.2, repl]

end Go.Proofs.YtpmgmddicbpgjaaDoor

/-
  Chapter 7: the head that the laws' closed facts speak of.
-/
namespace Go.Proofs.YtpmgmddicbpgjaaDoor
open Go.RowKit
set_option linter.unusedVariables false
set_option linter.unusedSimpArgs false

def hd0 : Hd := ⟨1, 0, 2, 50, 2, 1⟩
theorem hd0_code : hdCode hd0 = 0 := by decide

theorem lawHead_any (w : World) : Calls Tryd.prog 10 #[] w fun e w' => e = .returned (.agg #[.int .i64 1, .int .i64 0, .int .i64 2, .int .i64 50, .int .i64 2, .int .i64 1]) ∧ Below w.heap.size w w' := by
  go_enter Tryd.func10, Tryd.ntmps10
  go_wp2
  refine bodyPost_ret (v := .agg #[.int .i64 1, .int .i64 0, .int .i64 2, .int .i64 50, .int .i64 2, .int .i64 1]) (by simp [results, Tryd.results10, go_sem]) rfl ?_
  exact ⟨rfl, (Below.refl _ _).alloc (Nat.le_refl _) _⟩

end Go.Proofs.YtpmgmddicbpgjaaDoor

/-
  Chapter 9: the law's closed fact, held.
-/
namespace Go.Proofs.YtpmgmddicbpgjaaDoor
open Go.RowKit
set_option linter.unusedVariables false
set_option linter.unusedSimpArgs false
attribute [local go_sem ↓] Go.wp_at_zero Go.wp_at_succ

/-- a place in a box, told -/
def PlBox (w : World) (b : Nat) (Q : Pl) (L : List MKp) (p : Option Addr) (cp : Nat) : Prop := w.heap[b]? = some (.cells #[.int .i64 Q.me, .slice p Q.kp.length cp, .int .i64 Q.tm, .int .i64 Q.sq] 25 (0, 0)) ∧ PlNew 0 w Q.kp L p cp

theorem PlBox.below {w w' : World} {b : Nat} {Q : Pl} {L : List MKp} {p : Option Addr} {cp : Nat} (h : PlBox w b Q L p cp) (hb : Below w.heap.size w w') : PlBox w' b Q L p cp := ⟨blkB h.1 hb, h.2.below hb⟩

theorem PlBox.mk' {w w' : World} {B : Nat} {Q : Pl} {L : List MKp} {p : Option Addr} {cp : Nat} (h : PlNew B w Q.kp L p cp) (hw : w.alloc (.cells #[.int .i64 Q.me, .slice p Q.kp.length cp, .int .i64 Q.tm, .int .i64 Q.sq] 25) = w') : PlBox w' w.heap.size Q L p cp ∧ Below w.heap.size w w' := by
  have hb : Below w.heap.size w w' := by rw [← hw]; exact (Below.refl _ _).alloc (Nat.le_refl _) _
  exact ⟨⟨by rw [← hw, heap_alloc_eq, if_pos rfl], (h.low (Nat.zero_le _)).below hb⟩, hb⟩

theorem lies_blk {w : World} {b : Nat} {T : TypeId} {l : List Value} (h : w.heap[b]? = some (.cells l.toArray T (0, 0))) : Lies w (some ⟨b, 0, none⟩) l := by
  intro j u hj
  exact ⟨b, 0, rfl, by rw [Nat.zero_add]; exact cellB h j u (by simpa using hj)⟩

/-- a head's box -/
theorem hdBox6 {W : World} {g : Nat} {a0 a1 a2 a3 a4 a5 : Value} (h : W.heap[g]? = some (.cells #[a0, a1, a2, a3, a4, a5] 34 (0, 0))) : W.cell? ⟨g, 0, none⟩ = some a0 ∧ W.cell? ⟨g, 1, none⟩ = some a1 ∧ W.cell? ⟨g, 2, none⟩ = some a2 ∧ W.cell? ⟨g, 3, none⟩ = some a3 ∧ W.cell? ⟨g, 4, none⟩ = some a4 ∧ W.cell? ⟨g, 5, none⟩ = some a5 :=
  ⟨cellB h 0 _ rfl, cellB h 1 _ rfl, cellB h 2 _ rfl, cellB h 3 _ rfl, cellB h 4 _ rfl, cellB h 5 _ rfl⟩

theorem plH3_ok : PlOk plH3 := (next_zero held4.1).1
theorem plH4_ok : PlOk plH4 := (next_zero held6.1).1

theorem NextR.eq {w w' : World} {P Q : Pl} {r : Rc} {z : Int} {e : Ending} (h : NextR w P r e w') (h1 : P.nextCode r = z) (h2 : P.next r = Q) : RepR w Q z e w' := by
  unfold NextR at h
  rw [h1, h2] at h
  exact h

/-- Next, of a place in a box -/
theorem boxNext {w u : World} {b : Nat} {Q : Pl} {L : List MKp} {p : Option Addr} {cp : Nat} (h : PlBox w b Q L p cp) (hOk : PlOk Q) (hu : Below w.heap.size w u) (r : Rc) (ca : Option Addr) (cc : Nat) (hi : r.ints) (hd : r.d = []) (hca : Lies u ca (bs r.c)) (hL : Laid u) :
    Calls Tryd.prog 7 #[.agg #[.int .i64 Q.me, .slice p Q.kp.length cp, .int .i64 Q.tm, .int .i64 Q.sq], rcV r none 0 ca cc] u (NextR u Q r) := by
  have g := (h.2.below hu).good hOk
  have := placeNext_any Q p cp L r none 0 ca cc u g.1 g.2.1 g.2.2.2.1 (by rw [g.2.2.1]; exact g.2.2.2.2.1) g.2.2.2.2.2 hi (by rw [hd]; exact Nat.zero_le _) (by rw [hd]; exact Lies.nil _ _) hca hL
  rw [g.2.2.1] at this
  exact this

set_option maxHeartbeats 8000000 in
set_option maxRecDepth 16000 in
theorem held_any (w : World) (hL : Laid w) :
    Calls Tryd.prog 6 #[] w fun e w' => e = .returned (.bool true) ∧ Below w.heap.size w w' := by
  have hH := lawHead_any w
  have HL := Shut.mk hL
  clear hL
  go_enter Tryd.func6, Tryd.ntmps6
  go_wp2_with fail
  refine hH.mono ?_
  rintro e W1 ⟨rfl, hb1⟩
  clear hH
  go_upto_region 3 with fail
  obtain ⟨W2, hW2⟩ : ∃ W2, (((W1.alloc (.cells #[.int .i64 1, .int .i64 0, .int .i64 2, .int .i64 50, .int .i64 2, .int .i64 1] 34)).alloc (.cells #[.int .u8 7] 5)).alloc (.cells #[.int .u8 8] 5)).alloc (.cells (recCells [⟨rcH1, some ⟨W1.heap.size + 1, 0, none⟩, 1, none, 0⟩, ⟨rcH2, some ⟨W1.heap.size + 1 + 1, 0, none⟩, 1, none, 0⟩, ⟨rcH3, none, 0, none, 0⟩]).toArray 40) = W2 := ⟨_, rfl⟩
  have hW2' := hW2
  simp only [recCells, MRec.cells, rcH1, rcH2, rcH3, hdH, List.flatMap_cons, List.flatMap_nil, List.append_nil, List.cons_append, List.nil_append, List.length_cons, List.length_nil, Nat.zero_add] at hW2'
  rw [hW2']
  have s1 : ((W1.alloc (.cells #[.int .i64 1, .int .i64 0, .int .i64 2, .int .i64 50, .int .i64 2, .int .i64 1] 34)).heap).size = W1.heap.size + 1 := by simp
  have hb2 : Below W1.heap.size W1 W2 := by rw [← hW2]; exact ((((Below.refl _ _).alloc (Nat.le_refl _) _).alloc (by simp) _).alloc (by simp; omega) _).alloc (by simp; omega) _
  have hh2 : W2.heap[W1.heap.size]? = some (.cells #[.int .i64 1, .int .i64 0, .int .i64 2, .int .i64 50, .int .i64 2, .int .i64 1] 34 (0, 0)) := by rw [← hW2, heap_alloc_eq, if_neg (by simp <;> omega), heap_alloc_eq, if_neg (by simp <;> omega), heap_alloc_eq, if_neg (by simp <;> omega), heap_alloc_eq, if_pos rfl]
  have h72 : W2.heap[W1.heap.size + 1]? = some (.cells #[.int .u8 7] 5 (0, 0)) := by rw [← hW2, heap_alloc_eq, if_neg (by simp <;> omega), heap_alloc_eq, if_neg (by simp <;> omega), heap_alloc_eq, if_pos (by simp)]
  have h82 : W2.heap[W1.heap.size + 1 + 1]? = some (.cells #[.int .u8 8] 5 (0, 0)) := by rw [← hW2, heap_alloc_eq, if_neg (by simp <;> omega), heap_alloc_eq, if_pos (by simp)]
  have hl2 : W2.heap[W1.heap.size + 1 + 1 + 1]? = some (.cells (recCells [⟨rcH1, some ⟨W1.heap.size + 1, 0, none⟩, 1, none, 0⟩, ⟨rcH2, some ⟨W1.heap.size + 1 + 1, 0, none⟩, 1, none, 0⟩, ⟨rcH3, none, 0, none, 0⟩]).toArray 40 (0, 0)) := by rw [← hW2, heap_alloc_eq, if_pos (by simp)]
  have hR := replay_any 2 (some ⟨W1.heap.size + 1 + 1 + 1, 0, none⟩) 3 [⟨rcH1, some ⟨W1.heap.size + 1, 0, none⟩, 1, none, 0⟩, ⟨rcH2, some ⟨W1.heap.size + 1 + 1, 0, none⟩, 1, none, 0⟩, ⟨rcH3, none, 0, none, 0⟩] W2 (lies_blk hl2) (by
    intro m hm
    simp only [List.mem_cons, List.not_mem_nil, or_false] at hm
    rcases hm with rfl | rfl | rfl
    · exact ⟨⟨lies_blk (l := bs [7]) h72, Lies.nil _ _⟩, ⟨by show 1 ≤ maxLen; unfold maxLen; decide, by show 0 ≤ maxLen; exact Nat.zero_le _⟩, by unfold Rc.ints Hd.ok I64 rcH1 hdH; simp⟩
    · exact ⟨⟨lies_blk (l := bs [8]) h82, Lies.nil _ _⟩, ⟨by show 1 ≤ maxLen; unfold maxLen; decide, by show 0 ≤ maxLen; exact Nat.zero_le _⟩, by unfold Rc.ints Hd.ok I64 rcH2 hdH; simp⟩
    · exact ⟨⟨Lies.nil _ _, Lies.nil _ _⟩, ⟨by show 0 ≤ maxLen; exact Nat.zero_le _, by show 0 ≤ maxLen; exact Nat.zero_le _⟩, by unfold Rc.ints Hd.ok I64 rcH3 hdH; simp⟩) (by show 3 ≤ maxLen; unfold maxLen; decide) (Nat.le_refl 3) (HL.out.below (hb1.trans (hb2.mono hb1.size)))
  have hrp : replayP 2 [rcH1, rcH2, rcH3] = plH3 ∧ replayC 2 [rcH1, rcH2, rcH3] = 0 := by
    have h := held_repl
    refine ⟨?_, ?_⟩
    · unfold replayP; rw [if_neg (by decide), if_neg (by decide), h]; rfl
    · unfold replayC; rw [if_neg (by decide), if_neg (by decide), h]
  have hR' : Calls Tryd.prog 11 #[.int .i64 2, .slice (some ⟨W1.heap.size + 1 + 1 + 1, 0, none⟩) 3 3] W2 (RepR W2 plH3 0) := by
    have h := hR
    simp only [List.map_cons, List.map_nil] at h
    rw [hrp.1, hrp.2] at h
    exact h
  have hbw2 := hb1.trans (hb2.mono hb1.size)
  clear hR hrp hl2 h72 h82 hW2 hW2' s1 hb1 hb2
  go_wp2_with fail
  refine hR'.mono ?_
  rintro e W3 ⟨L3, p3, c3, rfl, H3⟩
  clear hR'
  have hbw3 := hbw2.trans (H3.out.2.mono hbw2.size)
  have hh3 := blkB hh2 H3.out.2
  go_upto_region 4 with fail
  obtain ⟨W4, hW4⟩ : ∃ W4, W3.alloc (.cells #[.int .i64 plH3.me, .slice p3 plH3.kp.length c3, .int .i64 plH3.tm, .int .i64 plH3.sq] 25) = W4 := ⟨_, rfl⟩
  rw [hW4]
  obtain ⟨hB3, hb4⟩ := PlBox.mk' H3.out.1 hW4
  have hh4 := blkB hh3 hb4
  have hbw4 := hbw3.trans (hb4.mono hbw3.size)
  generalize hx3 : W3.heap.size = x3 at hB3
  clear H3 hb4 hh3 hh2 hbw3 hbw2 hW4
  -- the delivery
  obtain ⟨U4, hU4⟩ : ∃ U4, W4.alloc (.cells #[.int .u8 7, .int .u8 8] 5) = U4 := ⟨_, rfl⟩
  have hu4 : Below W4.heap.size W4 U4 := by rw [← hU4]; exact (Below.refl _ _).alloc (Nat.le_refl _) _
  have hc4 : U4.heap[W4.heap.size]? = some (.cells #[.int .u8 7, .int .u8 8] 5 (0, 0)) := by rw [← hU4, heap_alloc_eq, if_pos rfl]
  have hN : Calls Tryd.prog 7 #[.agg #[.int .i64 plH3.me, .slice p3 plH3.kp.length c3, .int .i64 plH3.tm, .int .i64 plH3.sq], .agg #[.int .i64 3, .int .i64 0, .int .i64 0, .int .i64 0, .int .i64 1, .int .i64 0, .int .i64 2, .int .i64 50, .int .i64 2, .int .i64 1, .int .i64 0, .slice none 0 0, .slice (some ⟨W4.heap.size, 0, none⟩) 2 2]] U4 (RepR U4 plH4 0) := (boxNext hB3 plH3_ok hu4 (rcH4 8) (some ⟨W4.heap.size, 0, none⟩) 2 (by unfold Rc.ints Hd.ok I64 rcH4 hdH; simp) rfl (lies_blk (l := bs [7, 8]) hc4) (HL.out.below (hbw4.trans (hu4.mono hbw4.size)))).mono (fun e w' h => h.eq held4.1 held4.2)
  obtain ⟨b0, b1, b2, b3⟩ := plBox hB3.1
  obtain ⟨h0, h1, h2, h3, h4, h5⟩ := hdBox6 hh4
  have HU := Shut.mk (And.intro hu4 hU4)
  rw [← hU4] at hN
  clear hc4 hU4 hu4
  go_wp2_with fail
  refine hN.mono ?_
  rintro e W5 ⟨L5, p5, c5, rfl, H5⟩
  clear hN b0 b1 b2 b3 h0 h1 h2 h3 h4 h5
  go_upto_region 5 with fail
  obtain ⟨W6, hW6⟩ : ∃ W6, W5.alloc (.cells #[.int .i64 plH4.me, .slice p5 plH4.kp.length c5, .int .i64 plH4.tm, .int .i64 plH4.sq] 25) = W6 := ⟨_, rfl⟩
  rw [hW6]
  obtain ⟨hB5, hb6⟩ := PlBox.mk' H5.out.1 hW6
  have h46 : Below W4.heap.size W4 W6 := by
    have e1 := HU.out.1
    rw [← HU.out.2] at e1
    have e2 := e1.trans (H5.out.2.mono e1.size)
    exact e2.trans (hb6.mono e2.size)
  have hB3 := hB3.below h46
  have hh6 := blkB hh4 h46
  have hbw6 := hbw4.trans (h46.mono hbw4.size)
  generalize hx5 : W5.heap.size = x5 at hB5
  clear H5 hb6 h46 hh4 hbw4 hW6 HU
  -- another cargo is none
  obtain ⟨U6, hU6⟩ : ∃ U6, W6.alloc (.cells #[.int .u8 7, .int .u8 9] 5) = U6 := ⟨_, rfl⟩
  have hu6 : Below W6.heap.size W6 U6 := by rw [← hU6]; exact (Below.refl _ _).alloc (Nat.le_refl _) _
  have hc6 : U6.heap[W6.heap.size]? = some (.cells #[.int .u8 7, .int .u8 9] 5 (0, 0)) := by rw [← hU6, heap_alloc_eq, if_pos rfl]
  have hN : Calls Tryd.prog 7 #[.agg #[.int .i64 plH3.me, .slice p3 plH3.kp.length c3, .int .i64 plH3.tm, .int .i64 plH3.sq], .agg #[.int .i64 3, .int .i64 0, .int .i64 0, .int .i64 0, .int .i64 1, .int .i64 0, .int .i64 2, .int .i64 50, .int .i64 2, .int .i64 1, .int .i64 0, .slice none 0 0, .slice (some ⟨W6.heap.size, 0, none⟩) 2 2]] U6 (RepR U6 pl0 9) := (boxNext hB3 plH3_ok hu6 (rcH4 9) (some ⟨W6.heap.size, 0, none⟩) 2 (by unfold Rc.ints Hd.ok I64 rcH4 hdH; simp) rfl (lies_blk (l := bs [7, 9]) hc6) (HL.out.below (hbw6.trans (hu6.mono hbw6.size)))).mono (fun e w' h => h.eq held5 (next_bad (by rw [held5]; decide)))
  obtain ⟨b0, b1, b2, b3⟩ := plBox hB3.1
  obtain ⟨h0, h1, h2, h3, h4, h5⟩ := hdBox6 hh6
  have HU := Shut.mk (And.intro hu6 hU6)
  rw [← hU6] at hN
  clear hc6 hU6 hu6
  go_wp2_with fail
  refine hN.mono ?_
  rintro e W7 ⟨L7, p7, c7, rfl, H7⟩
  clear hN b0 b1 b2 b3 h0 h1 h2 h3 h4 h5
  go_upto_region 6 with fail
  obtain ⟨W8, hW8⟩ : ∃ W8, W7.alloc (.cells #[.int .i64 pl0.me, .slice p7 pl0.kp.length c7, .int .i64 pl0.tm, .int .i64 pl0.sq] 25) = W8 := ⟨_, rfl⟩
  rw [hW8]
  have hb8 : Below W7.heap.size W7 W8 := by rw [← hW8]; exact (Below.refl _ _).alloc (Nat.le_refl _) _
  have h68 : Below W6.heap.size W6 W8 := by
    have e1 := HU.out.1
    rw [← HU.out.2] at e1
    have e2 := e1.trans (H7.out.2.mono e1.size)
    exact e2.trans (hb8.mono e2.size)
  have hB3 := hB3.below h68
  have hB5 := hB5.below h68
  have hbw8 := hbw6.trans (h68.mono hbw6.size)
  clear H7 hb8 h68 hh6 hbw6 hW8 HU
  -- too late
  have hN : Calls Tryd.prog 7 #[.agg #[.int .i64 plH4.me, .slice p5 plH4.kp.length c5, .int .i64 plH4.tm, .int .i64 plH4.sq], .agg #[.int .i64 8, .int .i64 0, .int .i64 50, .int .i64 0, .int .i64 0, .int .i64 0, .int .i64 0, .int .i64 0, .int .i64 0, .int .i64 0, .int .i64 0, .slice none 0 0, .slice none 0 0]] W8 (RepR W8 plH6 0) := (boxNext hB5 plH4_ok (Below.refl _ _) rcH5 none 0 (by unfold Rc.ints Hd.ok I64 rcH5; simp) rfl (Lies.nil _ _) (HL.out.below hbw8)).mono (fun e w' h => h.eq held6.1 held6.2)
  obtain ⟨b0, b1, b2, b3⟩ := plBox hB5.1
  go_wp2_with fail
  refine hN.mono ?_
  rintro e W9 ⟨L9, p9, c9, rfl, H9⟩
  clear hN b0 b1 b2 b3
  go_upto_region 7 with fail
  obtain ⟨WA, hWA⟩ : ∃ WA, W9.alloc (.cells #[.int .i64 plH6.me, .slice p9 plH6.kp.length c9, .int .i64 plH6.tm, .int .i64 plH6.sq] 25) = WA := ⟨_, rfl⟩
  rw [hWA]
  obtain ⟨hB9, hbA⟩ := PlBox.mk' H9.out.1 hWA
  have h8A : Below W8.heap.size W8 WA := H9.out.2.trans (hbA.mono H9.out.2.size)
  have hB3 := hB3.below h8A
  have hB5 := hB5.below h8A
  have hbwA := hbw8.trans (h8A.mono hbw8.size)
  generalize hx9 : W9.heap.size = x9 at hB9
  clear H9 hbA h8A hbw8 hWA
  have hNw := placeNew_any 3 WA
  have hn3 : newCode 3 = 0 := by decide
  rw [hn3] at hNw
  go_wp2_with fail
  refine hNw.mono ?_
  rintro e WB ⟨m', rfl, HB⟩
  have hm3 : m' = 3 := HB.out.1 (by first | trivial | rfl)
  subst hm3
  have hbB := HB.out.2.2
  clear hNw HB
  go_upto_region 8 with fail
  obtain ⟨WC, hWC⟩ : ∃ WC, WB.alloc (.cells #[.int .i64 3, .slice none 0 0, .int .i64 0, .int .i64 0] 25) = WC := ⟨_, rfl⟩
  rw [hWC]
  have hbC : Below WB.heap.size WB WC := by rw [← hWC]; exact (Below.refl _ _).alloc (Nat.le_refl _) _
  have hkC : WC.heap[WB.heap.size]? = some (.cells #[.int .i64 3, .slice none 0 0, .int .i64 0, .int .i64 0] 25 (0, 0)) := by rw [← hWC, heap_alloc_eq, if_pos rfl]
  have hAC := hbB.trans (hbC.mono hbB.size)
  have hB3 := hB3.below hAC
  have hB5 := hB5.below hAC
  have hB9 := hB9.below hAC
  have hbwC := hbwA.trans (hAC.mono hbwA.size)
  clear hWC hbC hbB hAC hbwA
  have one : ∀ (Q : Pl) (k : Kp) (L : List MKp) (p : Option Addr) (c x : Nat), PlBox WC x Q L p c → Q.kp = [k] → ∃ g m, p = some ⟨g, 0, none⟩ ∧ L = [m] ∧ m.k = k ∧ 1 ≤ c := fun Q k L p c x h hk => by
    have h2 := h.2
    have hs := h2.says
    rw [hk] at hs
    obtain ⟨m, rfl, hm⟩ : ∃ m, L = [m] ∧ m.k = k := by
      cases L with
      | nil => cases hs
      | cons a t =>
        cases t with
        | nil => exact ⟨a, rfl, by simpa using hs⟩
        | cons b u => simp at hs
    rcases h2.own.2 with ⟨_, h0⟩ | ⟨g, cap, cur, h1, _, _, hc, _⟩
    · rw [hk] at h0; cases h0
    · simp only [Value.slice.injEq] at h1
      rw [hk] at hc
      exact ⟨g, m, h1.1, rfl, hm, by have := h1.2.2; simp at hc; omega⟩
  obtain ⟨g3, m3, rfl, rfl, hm3, hc3⟩ := one plH3 (kpH 4) L3 p3 c3 x3 hB3 rfl
  obtain ⟨g5, m5, rfl, rfl, hm5, hc5⟩ := one plH4 _ L5 p5 c5 x5 hB5 rfl
  have FC : ∀ u : World, Below WC.heap.size WC u → u.cell? ⟨x3, 0, none⟩ = some (.int .i64 2) ∧ u.cell? ⟨x3, 1, none⟩ = some (.slice (some ⟨g3, 0, none⟩) 1 c3) ∧ u.cell? ⟨x3, 2, none⟩ = some (.int .i64 0) ∧ u.cell? ⟨x3, 3, none⟩ = some (.int .i64 0) ∧ u.cell? ⟨x5, 1, none⟩ = some (.slice (some ⟨g5, 0, none⟩) 1 c5) ∧ u.cell? ⟨x9, 0, none⟩ = some (.int .i64 2) ∧ u.cell? ⟨x9, 1, none⟩ = some (.slice p9 0 c9) ∧ u.cell? ⟨x9, 2, none⟩ = some (.int .i64 50) ∧ u.cell? ⟨x9, 3, none⟩ = some (.int .i64 0) ∧ u.cell? ⟨WB.heap.size, 0, none⟩ = some (.int .i64 3) ∧ u.cell? ⟨g3, 9, none⟩ = some (.int .i64 4) ∧ u.cell? ⟨g5, 14, none⟩ = some (.bool true) ∧ u.cell? ⟨g5, 9, none⟩ = some (.int .i64 0) := fun u hu => by
    have b3 := plBox (hB3.below hu).1
    have b5 := plBox (hB5.below hu).1
    have b9 := plBox (hB9.below hu).1
    have bk := plBox (blkB hkC hu)
    have l3 := (own_some (hB3.below hu).2.own).1
    have l5 := (own_some (hB5.below hu).2.own).1
    refine ⟨b3.1, b3.2.1, b3.2.2.1, b3.2.2.2, b5.2.1, b9.1, b9.2.1, b9.2.2.1, b9.2.2.2, bk.1, ?_, ?_, ?_⟩
    · have := kp_cell (k := 0) ⟨l3, rfl⟩ 9 rfl
      rw [hm3] at this
      have e : 0 + 0 * 16 + 9 = 9 := rfl
      rw [e] at this
      exact this
    · have := kp_cell (k := 0) ⟨l5, rfl⟩ 14 rfl
      rw [hm5] at this
      have e : 0 + 0 * 16 + 14 = 14 := rfl
      rw [e] at this
      exact this
    · have := kp_cell (k := 0) ⟨l5, rfl⟩ 9 rfl
      rw [hm5] at this
      have e : 0 + 0 * 16 + 9 = 9 := rfl
      rw [e] at this
      exact this
  have F1 : ∀ u : World, Below WC.heap.size WC u → Calls Tryd.prog 9 #[.agg #[.int .i64 2, .slice (some ⟨g3, 0, none⟩) 1 c3, .int .i64 0, .int .i64 0], .int .i64 1, .int .i64 0] u fun e w' => e = .returned (.int .i64 0) ∧ Below u.heap.size u w' := fun u hu =>
    (find_any 2 0 0 (some ⟨g3, 0, none⟩) c3 [m3] 1 0 u (own_some (hB3.below hu).2.own).1 (by show 1 ≤ maxLen; unfold maxLen; decide)).mono (fun e w' h => ⟨by rw [h.1]; simp only [List.map_cons, List.map_nil, hm3]; rfl, h.2⟩)
  have F2 : ∀ u : World, Below WC.heap.size WC u → Calls Tryd.prog 9 #[.agg #[.int .i64 2, .slice p9 0 c9, .int .i64 50, .int .i64 0], .int .i64 1, .int .i64 0] u fun e w' => e = .returned (.int .i64 (-1)) ∧ Below u.heap.size u w' := fun u hu =>
    (find_any 2 50 0 p9 c9 [] 1 0 u (Lies.nil _ _) (Nat.zero_le _)).mono (fun e w' h => ⟨h.1, h.2⟩)
  have HFC := Shut.mk FC
  have HF1 := Shut.mk F1
  have HF2 := Shut.mk F2
  have HBC := Shut.mk hbwC
  obtain ⟨z0, z1, z2, z3, z4, z5, z6, z7, z8, z9, z10, z11, z12⟩ := FC WC (Below.refl _ _)
  clear FC F1 F2 one hB3 hB5 hB9 hbwC hkC hm3 hm5
  go_wp2_with fail
  refine (HF1.out _ (Below.refl _ _)).mono ?_
  rintro e wj ⟨rfl, hbj⟩
  have hk1 : Below WC.heap.size WC wj := hbj
  clear hbj z0 z1 z2 z3 z4 z5 z6 z7 z8 z9 z10 z11 z12
  obtain ⟨z0, z1, z2, z3, z4, z5, z6, z7, z8, z9, z10, z11, z12⟩ := HFC.out _ hk1
  go_wp2_with fail
  refine (HF2.out _ hk1).mono ?_
  rintro e wi ⟨rfl, hbi⟩
  have hk2 := hk1.trans (hbi.mono hk1.size)
  have hF := HBC.out.trans (hk2.mono HBC.out.size)
  clear hbi z0 z1 z2 z3 z4 z5 z6 z7 z8 z9 z10 z11 z12
  go_wp2
  go_ret
  exact ⟨rfl, hF⟩

end Go.Proofs.YtpmgmddicbpgjaaDoor

/-
  Chapter 9, of no program: what KeepOnce's map says after a record.
-/
namespace Go.Proofs.YtpmgmddicbpgjaaDoor
open Go.RowKit
set_option linter.unusedVariables false
set_option linter.unusedSimpArgs false

/-- the heads delivered, one more record told -/
def toldBy (r : Rc) (D : List Hd) : List Hd := if r.k = 3 then r.h :: D else D

theorem told_map (r : Rc) (D : List Hd) : (fun z : Hd => if z = r.h then (decide (r.h ∈ D) || r.k == 3) else decide (z ∈ D)) = fun z => decide (z ∈ toldBy r D) := by
  funext z
  unfold toldBy
  by_cases hz : z = r.h
  · subst hz
    rw [if_pos rfl]
    by_cases h3 : r.k = 3
    · simp [h3]
    · simp [h3]
  · rw [if_neg hz]
    by_cases h3 : r.k = 3
    · simp [h3, hz]
    · simp [h3]

/-- what a record leaves of the place, for KeepOnce -/
theorem once_facts {P : Pl} {r : Rc} {D : List Hd} (h : Told P D) (hz : P.nextCode r = 0) : PlOk (P.next r) ∧ (P.next r).me = P.me ∧ P.tm ≤ (P.next r).tm ∧ P.sq ≤ (P.next r).sq ∧ Told (P.next r) (toldBy r D) ∧ (r.k = 3 → ¬ r.h ∈ D ∧ P.tm < r.h.L ∧ r.h.T = P.me) ∧ ∀ k ∈ (P.next r).kp, (k.h ∈ toldBy r D ↔ k.dl = true) := by
  obtain ⟨hp, hr, h0, hn⟩ := next_zero hz
  rw [hn]
  obtain ⟨t1, t2⟩ := told_next hp hr h0 h
  obtain ⟨hq, hme, hsq, hh⟩ := does_ok hp hr h0
  refine ⟨hq, hme, ?_, hsq, t1, t2, fun k hk => told_iff hq t1 hk⟩
  rcases hh with ⟨k8, ht, hn8, hm⟩ | ⟨k8, z, M⟩
  · omega
  · rw [M.tm]; exact Int.le_refl _

end Go.Proofs.YtpmgmddicbpgjaaDoor

/-
  Chapter 9: a map by heads that a call makes: what it holds.
-/
namespace Go.Proofs.YtpmgmddicbpgjaaDoor
open Go.ChangeShapes Go.WideShapes Go.WideMaps Go.WideElems Go.RowKit Go.Maps
set_option linter.unusedVariables false
set_option linter.unusedSimpArgs false

theorem laidOutK : laidOutB Tryd.prog = true := by kernel_rfl
theorem rowHdK : (34 : TypeId) < Tryd.prog.types.size := of_decide_eq_true (by kernel_rfl)
theorem wideHdK : (match Tryd.prog.underlying 34 with | some (.array _ _) | some (.struct _) => true | _ => false) = true := by rw [Tryd.underlying34]
theorem hdKeyed : Keyed Tryd.prog 34 := Keyed.of_law (deep_law_laid laidOutK (m := 3) (by omega) rowHdK (by kernel_rfl) (by rw [Tryd.underlying34]))

theorem kInt1 : Tryd.prog.cellsOf 3 = 1 := by kernel_rfl
theorem kPlan2 : Tryd.prog.cellsOf 32 = 2 := by kernel_rfl
theorem kHead6 : Tryd.prog.cellsOf 34 = 6 := by kernel_rfl

theorem wf64' {x : Int} (h : I64 x) : (Lit.int .i64 x).wf = true := by
  obtain ⟨h1, h2⟩ := h
  have m1 : IntKind.i64.min = -9223372036854775808 := by decide
  have m2 : IntKind.i64.max = 9223372036854775807 := by decide
  simp only [Lit.wf, m1, m2]
  simp
  omega

/-- a head can be a key -/
theorem hdKey (h : Hd) (hi : h.ok) : ∃ kl, keyOf Tryd.prog 34 h.val = some kl := by
  obtain ⟨w0, w1, w2, w3, w4, w5⟩ : (Lit.int .i64 h.F).wf = true ∧ (Lit.int .i64 h.Q).wf = true ∧ (Lit.int .i64 h.T).wf = true ∧ (Lit.int .i64 h.L).wf = true ∧ (Lit.int .i64 h.B).wf = true ∧ (Lit.int .i64 h.K).wf = true := by
    obtain ⟨i0, i1, i2, i3, i4, i5⟩ := hi
    exact ⟨wf64' i0, wf64' i1, wf64' i2, wf64' i3, wf64' i4, wf64' i5⟩
  have hkt : Tryd.prog.keyType 34 = true := by kernel_rfl
  have hfm : h.val.formed Tryd.prog 34 = true := by simp [Hd.val, Value.formed, Tryd.underlying34, kHead6]
  obtain ⟨m, hm⟩ : ∃ m, Tryd.prog.types.size + 1 = m + 3 := ⟨Tryd.prog.types.size - 2, by have : 2 ≤ Tryd.prog.types.size := of_decide_eq_true (by kernel_rfl); omega⟩
  unfold keyOf
  rw [Tryd.underlying34]
  simp only [hkt, hfm, Bool.and_self, if_true, hm]
  simp (decide := true) [Program.keyLits, Tryd.underlying34, Tryd.underlying32, Tryd.underlying3, kInt1, kPlan2, kHead6, Hd.val, Value.cells, w0, w1, w2, w3, w4, w5]

/-- the key -/
noncomputable def hdLit (h : Hd) : Lit := (keyOf Tryd.prog 34 h.val).getD (.bool false)

theorem hdLit_key {h : Hd} (hi : h.ok) : keyOf Tryd.prog 34 h.val = some (hdLit h) := by
  obtain ⟨kl, e⟩ := hdKey h hi
  rw [hdLit, e]; rfl

theorem hdVal_inj {a b : Hd} (e : a.val = b.val) : a = b := by
  obtain ⟨a1, a2, a3, a4, a5, a6⟩ := a
  obtain ⟨b1, b2, b3, b4, b5, b6⟩ := b
  simp [Hd.val] at e
  simp [e]

theorem hdLit_inj {a b : Hd} (ha : a.ok) (hb : b.ok) (e : hdLit a = hdLit b) : a = b :=
  hdVal_inj (hdKeyed.inj (hdLit_key ha) (by rw [e]; exact hdLit_key hb))

theorem zBool (w : World) : (zeroValue 4).run Tryd.prog w = .ok (.bool false) w := by kernel_rfl

/-- a map from heads to bools that a call made: what it says of each head -/
def HdMap (w : World) (b n : Nat) (f : Hd → Bool) : Prop :=
  ∃ D : DataW Unit, w.ownsMap Tryd.prog 34 (plainElem Tryd.prog 4) b n D ∧ ∀ h : Hd, h.ok → D.atKey (hdLit h) (.lit (.bool false)) = .lit (.bool (f h))

theorem HdMap.made (w : World) : HdMap (w.alloc (.map #[] 0)) w.heap.size 0 (fun _ => false) :=
  ⟨.map [], World.ownsMap_made _ _ _ _, fun h _ => rfl⟩

theorem HdMap.kept {w w' : World} {b n : Nat} {f : Hd → Bool} {row : Option Nat} (h : HdMap w b n f) (hg : w.grownBy w' row) (hne : some b ≠ row) : HdMap w' b n f := by
  obtain ⟨D, h1, h2⟩ := h
  exact ⟨D, h1.kept hg hne, h2⟩

theorem plainElem_bool_inv {H : Type} {P : Program} {e : TypeId} (he : P.underlying e = some .bool) {v : Value} {z : DataW H × List MemPlace} (h : plainElem P e v = some z) : ∃ a, v = .bool a ∧ z = (.lit (.bool a), []) := by
  unfold plainElem at h
  rw [he] at h
  cases v <;> simp at h
  exact ⟨_, rfl, h.symm⟩

theorem HdMap.look {w : World} {b n : Nat} {f : Hd → Bool} (h : HdMap w b n f) {x : Hd} (hx : x.ok) : (Instr.lookup 30 (.map (some b)) x.val false).run Tryd.prog w = .ok (.bool (f x)) w := by
  obtain ⟨D, h1, h2⟩ := h
  obtain ⟨v, ps, hrun, hv⟩ := h1.lookup hdKeyed Tryd.underlying30 (z := .bool false) (zBool w) (plainElem_bool Tryd.underlying4 false) (hdLit_key hx)
  rw [h2 x hx] at hv
  obtain ⟨c, rfl, hc⟩ := plainElem_bool_inv Tryd.underlying4 hv
  simp only [Prod.mk.injEq, DataW.lit.injEq, Lit.bool.injEq] at hc
  rw [hrun, ← hc.1]

theorem HdMap.put {w : World} {b n : Nat} {f : Hd → Bool} (h : HdMap w b n f) (hn : n < maxLen) {x : Hd} (hx : x.ok) (y : Bool) : ∃ w', (Instr.mapUpdate 30 (.map (some b)) x.val (.bool y)).run Tryd.prog w = .ok () w' ∧ HdMap w' b (n + 1) (fun z => if z = x then y else f z) ∧ w.mapTurned w' b := by
  obtain ⟨D, h1, h2⟩ := h
  obtain ⟨w', hrun, ho, ht⟩ := h1.store hdKeyed Tryd.underlying30 hn (hdLit_key hx) (plainElem_bool Tryd.underlying4 y)
  refine ⟨w', hrun, ⟨_, ho, fun z hz => ?_⟩, ht⟩
  by_cases e : z = x
  · subst e
    show _ = DataW.lit (Lit.bool (if z = z then y else f z))
    have hk := hdLit_key hz
    rw [if_pos rfl]
    have hm := h1.isMap
    clear hrun ho ht h1 h2
    generalize hdLit z = kl at *
    exact atKey_put_same hm (hdKeyed.key hk) _ _
  · show _ = DataW.lit (Lit.bool (if z = x then y else f z))
    rw [if_neg e, atKey_put_other (fun g => e (hdLit_inj hz hx g)), h2 z hz]

end Go.Proofs.YtpmgmddicbpgjaaDoor
