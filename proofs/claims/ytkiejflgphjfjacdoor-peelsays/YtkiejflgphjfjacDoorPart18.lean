import Derived.Test.YtkiejflgphjfjacDoorPart7
import Derived.Test.YtkiejflgphjfjacDoorPart9
import Derived.Test.YtkiejflgphjfjacDoorPart17
import Derived.Test.YtkiejflgphjfjacDoorPart2
import Derived.Deep.CutBlock
import Derived.Test.YtkiejflgphjfjacDoorPart4
import Derived.Test.YtkiejflgphjfjacDoorPart13
import Derived.Test.YtkiejflgphjfjacDoorPart1
/-
  'made', the closed fact of chapter 4's statements, over whatever Make and Check answer as chapter 4 asks.
-/
namespace Go.Proofs.YtkiejflgphjfjacDoor
open Go.RowKit
set_option linter.unusedVariables false
set_option linter.unusedSimpArgs false

/-- code.Make answers as chapter 4 asks -/
def MakeOk : Prop := ∀ (B K id : Int) (a : Option Addr) (cap : Nat) (c : List UInt8) (w : World), I64 B → I64 K → c.length ≤ maxLen → c.length ≤ cap → Lies w a (bs c) → Laid w →
    Calls Tryd.prog 42 #[.agg #[.int .i64 B, .int .i64 K], .slice a c.length cap, .int .i64 id] w fun e w' =>
      ∃ (a' : Option Addr) (c' : Nat), e = .returned (.tuple #[.agg #[.int .i64 (symID B K c id), .slice a' (symRes B K c id).length c'], .int .i64 (symCode B K c id)]) ∧ Lies w' a' (bs (symRes B K c id)) ∧ Below w.heap.size w w'

/-- code.Check answers as chapter 4 asks -/
def CheckOk : Prop := ∀ (B K id : Int) (a : Option Addr) (n cap : Nat) (w : World), I64 B → I64 K → n ≤ maxLen →
    Calls Tryd.prog 61 #[.agg #[.int .i64 B, .int .i64 K], .agg #[.int .i64 id, .slice a n cap]] w fun e w' => e = .returned (.int .i64 (chkS B K id n)) ∧ Below w.heap.size w w'

theorem cellB {w w' : World} {b o : Nat} {v : Value} (h : w.cell? ⟨b, o, none⟩ = some v) (hb : Below w.heap.size w w') : w'.cell? ⟨b, o, none⟩ = some v := by
  have := World.block_lt_of_cell? w _ h
  rw [(bcell hb).1 b o this]
  exact h

theorem cellA {w : World} {b o : Nat} {v : Value} (h : w.cell? ⟨b, o, none⟩ = some v) (ob : Obj) : (w.alloc ob).cell? ⟨b, o, none⟩ = some v := cellB h ((Below.refl _ _).alloc (Nat.le_refl _) _)

theorem good31 : Good 3 1 3 1 3 := ⟨rfl, rfl, by omega, by omega, by omega, by omega, by decide, by omega, by omega, by omega, by omega⟩

theorem code31 (id : Int) (h : ¬ (id < 0 ∨ 9999 < id)) : symCode 3 1 [1, 2, 4] id = 0 ∧ symID 3 1 [1, 2, 4] id = id ∧ symRes 3 1 [1, 2, 4] id = symL 3 1 [1, 2, 4] id.toNat := by
  have hc : cutCode 3 1 [1, 2, 4] = 0 := (cutCode_good good31 rfl).1
  have e : symCode 3 1 [1, 2, 4] id = 0 := by rw [symCode, if_neg (by simp [hc]), if_neg h]
  refine ⟨e, by simp [symID, e], ?_⟩
  rw [symRes, if_pos e, good31.eN]
  rfl

theorem sym7 : symL 3 1 [1, 2, 4] 7 = [5] := by
  rw [symL, chosen_7]
  decide

theorem sym2 : symL 3 1 [1, 2, 4] 2 = [4] := by
  rw [symL, chosen_low (by decide)]
  decide

theorem make31 (hM : MakeOk) (w : World) (hL : Laid w) (b : Nat) (hl : Lies w (some ⟨b, 0, none⟩) [.int .u8 1, .int .u8 2, .int .u8 4]) (id : Int) (x : UInt8) (h : ¬ (id < 0 ∨ 9999 < id)) (hx : symL 3 1 [1, 2, 4] id.toNat = [x]) :
    Calls Tryd.prog 42 #[.agg #[.int .i64 3, .int .i64 1], .slice (some ⟨b, 0, none⟩) 3 3, .int .i64 id] w fun e w' =>
      ∃ (a' : Option Addr) (c' : Nat), e = .returned (.tuple #[.agg #[.int .i64 id, .slice a' 1 c'], .int .i64 0]) ∧ Lies w' a' [.int .u8 (x.toNat : Int)] ∧ Below w.heap.size w w' := by
  have hc := hM 3 1 id (some ⟨b, 0, none⟩) 3 [1, 2, 4] w ⟨by omega, by omega⟩ ⟨by omega, by omega⟩ (by unfold maxLen; simp) (by simp) hl hL
  obtain ⟨e1, e2, e3⟩ := code31 id h
  rw [e1, e2, e3, hx] at hc
  refine hc.mono ?_
  rintro e w' ⟨a', c', rfl, h1, h2⟩
  exact ⟨a', c', rfl, h1, h2⟩

end Go.Proofs.YtkiejflgphjfjacDoor

/-
  'added', the closed fact of the statements on chapter 1; sum.Add as one contract.
-/
namespace Go.Proofs.YtkiejflgphjfjacDoor
open Go.RowKit
set_option linter.unusedVariables false
set_option linter.unusedSimpArgs false

/-- what Add answers, as bytes -/
def resL (bl : List Blk) : List UInt8 := if addCode bl = 0 then sumBl bl else []

/-- sum.Add -/
theorem add_any (a : Option Addr) (cap : Nat) (bl : List Blk) (w : World) (hn : bl.length ≤ maxLen) (ha : Lies w a (bl.map Blk.val)) (hall : AllIn w bl) :
    Calls Tryd.prog 71 #[.slice a bl.length cap] w fun e w' => ∃ a' c', e = .returned (.tuple #[.slice a' (resL bl).length c', .int .i64 (addCode bl)]) ∧ Lies w' a' (bs (resL bl)) ∧ Below w.heap.size w w' := by
  by_cases h : addCode bl = 0
  · refine (add_good a cap bl w hn ha hall h).mono ?_
    rintro e w' ⟨rfl, hrow, hb⟩
    have er : resL bl = sumBl bl := by simp [resL, h]
    rw [er, h]
    exact ⟨_, _, rfl, row_lies hrow rfl, hb⟩
  · refine (add_bad a cap bl w hn ha hall h).mono ?_
    rintro e w' ⟨rfl, rfl⟩
    have er : resL bl = [] := by simp [resL, h]
    rw [er]
    exact ⟨none, 0, rfl, Lies.nil _ _, Below.refl _ _⟩

def abl (n : Nat) : List Blk := [⟨some ⟨n, 0, none⟩, 2, [1, 2]⟩, ⟨some ⟨n + 1, 0, none⟩, 2, [3, 2]⟩, ⟨some ⟨n + 1 + 1, 0, none⟩, 2, [4, 9]⟩]

theorem abl_sum (n : Nat) : sumBl (abl n) = [6, 9] := by
  show sumOf [[1, 2], [3, 2], [4, 9]] = [6, 9]
  decide

theorem abl_code (n : Nat) : addCode (abl n) = 0 := by
  have h1 : chk (lens (abl n)) = 0 := by
    show chk [2, 2, 2] = 0
    decide
  have h2 : (abl n).length = 3 := rfl
  rw [addCode, h1, h2]
  rfl

theorem bs2 (x y : UInt8) : bs [x, y] = [.int .u8 (x.toNat : Int), .int .u8 (y.toNat : Int)] := rfl

end Go.Proofs.YtkiejflgphjfjacDoor

/-
  code.Make: its contract.
-/
namespace Go.Proofs.YtkiejflgphjfjacDoor
open Go.RowKit
set_option linter.unusedVariables false
set_option linter.unusedSimpArgs false

theorem make_bad1 (B K id : Int) (a : Option Addr) (cap : Nat) (c : List UInt8) (w : World) (hB : I64 B) (hK : I64 K) (hn : c.length ≤ maxLen) (hcap : c.length ≤ cap) (ha : Lies w a (bs c)) (hc : cutCode B K c ≠ 0) :
    Calls Tryd.prog 42 #[.agg #[.int .i64 B, .int .i64 K], .slice a c.length cap, .int .i64 id] w fun e w' => e = .returned (.tuple #[.agg #[.int .i64 0, .slice none 0 0], .int .i64 (cutCode B K c)]) ∧ Below w.heap.size w w' := by
  have hc' : (cutCode B K c != 0) = true := by simpa using hc
  have HCAP := Shut.mk hcap
  have HN := Shut.mk hn
  clear hc hcap hn
  go_enter Tryd.func42, Tryd.ntmps42
  go_wp2_with fail
  refine (cut_any B K a cap c _ hB hK HN.out HCAP.out ((ha.alloc _).alloc _)).mono ?_
  rintro e w1 ⟨a', bl, rfl, hl, hin, hcaps, hbl, hb⟩
  obtain ⟨x0, x1, y0, y1⟩ := boxes2 hb
  have f0 := frozen2 hb
  have hz := sizes2 hb
  have hb := boxBelow (boxBelow hb)
  clear hl hin hbl ha hcaps
  obtain ⟨q, hq⟩ : ∃ q, cutCode B K c = q := ⟨_, rfl⟩
  have HQ := Shut.mk hq
  rw [hq] at hc' ⊢
  clear hq
  go_wp2
  obtain ⟨z0, z1⟩ := set2 y0 y1 (.int .i64 0) (.slice none 0 0)
  have hb := (hb.setCell (p := ⟨w.heap.size + 1, 0, none⟩) (by simp) (.int .i64 0)).setCell (p := ⟨w.heap.size + 1, 1, none⟩) (by simp) (.slice none 0 0)
  generalize (w1.setCell ⟨w.heap.size + 1, 0, none⟩ (.int .i64 0)).setCell ⟨w.heap.size + 1, 1, none⟩ (.slice none 0 0) = w9 at *
  refine bodyPost_ret (v := .tuple #[.agg #[.int .i64 0, .slice none 0 0], .int .i64 q]) (by simp [results, Tryd.results42, go_sem, z0, z1]) rfl ?_
  exact ⟨by rw [HQ.out], hb⟩

theorem make_bad2 (B K id : Int) (a : Option Addr) (cap : Nat) (c : List UInt8) (w : World) (hB : I64 B) (hK : I64 K) (hn : c.length ≤ maxLen) (hcap : c.length ≤ cap) (ha : Lies w a (bs c)) (hc : cutCode B K c = 0) (hi : id < 0 ∨ 9999 < id) :
    Calls Tryd.prog 42 #[.agg #[.int .i64 B, .int .i64 K], .slice a c.length cap, .int .i64 id] w fun e w' => e = .returned (.tuple #[.agg #[.int .i64 0, .slice none 0 0], .int .i64 3]) ∧ Below w.heap.size w w' := by
  have HC := Shut.mk hc
  have HCAP := Shut.mk hcap
  have HN := Shut.mk hn
  clear hc hcap hn
  go_enter Tryd.func42, Tryd.ntmps42
  go_wp2_with fail
  refine (cut_any B K a cap c _ hB hK HN.out HCAP.out ((ha.alloc _).alloc _)).mono ?_
  rintro e w1 ⟨a', bl, rfl, hl, hin, hcaps, hbl, hb⟩
  obtain ⟨x0, x1, y0, y1⟩ := boxes2 hb
  have f0 := frozen2 hb
  have hz := sizes2 hb
  have hb := boxBelow (boxBelow hb)
  rw [HC.out]
  clear hl hin hbl ha hcaps
  go_wp2_with fail
  refine (of_bad id bl.length _ (by unfold OutOf; omega)).mono ?_
  rintro e w2 ⟨rfl, rfl⟩
  clear hi
  go_wp2
  obtain ⟨z0, z1⟩ := set2 y0 y1 (.int .i64 0) (.slice none 0 0)
  have hb := (hb.setCell (p := ⟨w.heap.size + 1, 0, none⟩) (by simp) (.int .i64 0)).setCell (p := ⟨w.heap.size + 1, 1, none⟩) (by simp) (.slice none 0 0)
  generalize (w1.setCell ⟨w.heap.size + 1, 0, none⟩ (.int .i64 0)).setCell ⟨w.heap.size + 1, 1, none⟩ (.slice none 0 0) = w9 at *
  refine bodyPost_ret (v := .tuple #[.agg #[.int .i64 0, .slice none 0 0], .int .i64 3]) (by simp [results, Tryd.results42, go_sem, z0, z1]) rfl ?_
  exact ⟨rfl, hb⟩

/-- the blocks that are picked, of the first q -/
def selTo (bl : List Blk) (l : List Nat) (q : Nat) : List Blk := (picksTo l q).filterMap fun j => bl[j]?

theorem selTo_in {bl : List Blk} {l : List Nat} {q : Nat} (hq : q < bl.length) (h : q ∈ l) : selTo bl l (q + 1) = selTo bl l q ++ [bl[q]] := by
  rw [selTo, picksTo_in h, List.filterMap_append]
  simp [selTo, hq]

theorem selTo_out {bl : List Blk} {l : List Nat} {q : Nat} (h : ¬ q ∈ l) : selTo bl l (q + 1) = selTo bl l q := by
  rw [selTo, picksTo_out h, selTo]

theorem selTo_mem {bl : List Blk} {l : List Nat} {q : Nat} {b : Blk} (h : b ∈ selTo bl l q) : b ∈ bl := by
  obtain ⟨j, _, e⟩ := List.mem_filterMap.1 h
  exact List.mem_of_getElem? e

theorem selTo_length (bl : List Blk) (l : List Nat) (q : Nat) : (selTo bl l q).length ≤ q := by
  refine Nat.le_trans (List.length_filterMap_le _ _) ?_
  refine Nat.le_trans (List.length_filter_le _ _) ?_
  simp

theorem selTo_l {bl : List Blk} {l : List Nat} {nb k q : Nat} {c : List UInt8} (hbl : bl.map Blk.l = cutL nb k c) (hq : q ≤ nb) : (selTo bl l q).map Blk.l = (picksTo l q).map fun j => piece k j c := by
  have hlen : bl.length = nb := by have := congrArg List.length hbl; simpa [cutL_length] using this
  have h : ∀ (m : List Nat), (∀ j ∈ m, j < nb) → (m.filterMap fun j => bl[j]?).map Blk.l = m.map fun j => piece k j c := by
    intro m
    induction m with
    | nil => intro _; rfl
    | cons j m ih =>
      intro hm
      have hj : j < bl.length := by rw [hlen]; exact hm j List.mem_cons_self
      have e : bl[j].l = piece k j c := by
        have h2 := congrArg (fun x => x[j]?) hbl
        simp [cutL_get c (show j < nb by omega), hj] at h2
        exact h2
      simp only [List.filterMap_cons, List.getElem?_eq_getElem hj, List.map_cons, e]
      rw [ih fun i hi => hm i (List.mem_cons_of_mem _ hi)]
  exact h _ fun j hj => by have := picksTo_lt hj; omega

/-- the list in the making -/
def SelInv (w2 wr : World) (v : Value) (bl : List Blk) (l : List Nat) (q : Nat) : Prop := wr.ownsRow w2.heap.size 36 1 v (selTo bl l q).length ((selTo bl l q).map Blk.val) ∧ Below w2.heap.size w2 wr

theorem SelInv.new {w2 wr w4 : World} {v v' : Value} {bl : List Blk} {l : List Nat} {q : Nat} (hI : SelInv w2 wr v bl l q) (o : Obj) (hq : q < bl.length) (hm : q ∈ l)
    (ho' : w4.ownsRow w2.heap.size 36 1 v' ((selTo bl l q).length + 1) ((selTo bl l q).map Blk.val ++ [bl[q].val])) (hg : (wr.alloc o).grownBy w4 v.ownBlock) : SelInv w2 w4 v' bl l (q + 1) := by
  unfold SelInv
  rw [selTo_in hq hm]
  refine ⟨by simpa using ho', ?_⟩
  refine (hI.2.alloc hI.2.size o).grown hg (by have := hI.2.size; simp; omega) ?_
  intro g hg'
  exact (hI.1.lt g hg').1

theorem addCode_all {bl : List Blk} {k : Nat} (h0 : 0 < bl.length) (k1 : 1 ≤ k) (k2 : k ≤ 16) (h : ∀ b ∈ bl, b.l.length = k) : addCode bl = 0 := by
  have hl : ∀ i (hi : i < (lens bl).length), (lens bl)[i] = k := fun i hi => by
    have hi' : i < bl.length := by simpa [lens] using hi
    rw [lens_get hi']
    exact h _ (List.getElem_mem hi')
  have hh : (lens bl).headD 0 = k := by rw [lens_head h0]; exact h _ (List.getElem_mem h0)
  have hc : chk (lens bl) = 0 := by
    unfold chk
    refine chkFrom_all fun i hi _ => ?_
    rw [hl i hi, hh]
    omega
  rw [addCode, if_pos hc, if_neg (by omega)]

/-- sum.Add of picked blocks -/
theorem add_sel (w : World) (a : Option Addr) (cap : Nat) (bl : List Blk) (k : Nat) (m : List Nat) (c : List UInt8) (k1 : 1 ≤ k) (k2 : k ≤ 16) (hn : bl.length ≤ 24) (ha : Lies w a (bl.map Blk.val)) (hall : AllIn w bl) (hl : bl.map Blk.l = m.map fun j => piece k j c) (h0 : 0 < m.length) :
    Calls Tryd.prog 71 #[.slice a bl.length cap] w fun e w' => ∃ (a' : Option Addr) (c' : Nat), e = .returned (.tuple #[.slice a' k c', .int .i64 0]) ∧ Lies w' a' (bs (sumTo (zeros k) (m.map fun j => piece k j c))) ∧ Below w.heap.size w w' ∧ ∀ b o, a' = some ⟨b, o, none⟩ → w.heap.size ≤ b := by
  have hlen : bl.length = m.length := by have := congrArg List.length hl; simpa using this
  have hk : ∀ b ∈ bl, b.l.length = k := fun b hb => by
    have : b.l ∈ bl.map Blk.l := List.mem_map_of_mem hb
    rw [hl] at this
    obtain ⟨j, _, e⟩ := List.mem_map.1 this
    rw [← e]
    exact piece_length _ _ _
  have hs : sumBl bl = sumTo (zeros k) (m.map fun j => piece k j c) := by
    unfold sumBl sumOf
    rw [hl]
    congr 2
    cases m with
    | nil => simp at h0
    | cons j m => simp [piece_length]
  have hsl : (sumTo (zeros k) (m.map fun j => piece k j c)).length = k := sumTo_length _ _ (by simp [zeros]) fun b hb => by
    obtain ⟨j, _, rfl⟩ := List.mem_map.1 hb
    exact piece_length _ _ _
  have h := add_good a cap bl w (by unfold maxLen; omega) ha hall (addCode_all (by omega) k1 k2 hk)
  rw [hs, hsl] at h
  refine h.mono ?_
  rintro e w' ⟨rfl, hrow, hb⟩
  exact ⟨_, _, rfl, row_lies hrow hsl, hb, fun b o e => by cases e; exact Nat.le_refl _⟩

/-- code.chosen: the blocks that are in -/
theorem sel_any (w2 : World) (a : Option Addr) (cap : Nat) (bl : List Blk) (g2 nb cap2 : Nat) (l : List Nat) (hn : nb ≤ 24) (hlen : bl.length = nb) (hla : Lies w2 a (bl.map Blk.val)) (hrow : Lies w2 (some ⟨g2, 0, none⟩) ((List.range nb).map (inAt l))) :
    Calls Tryd.prog 72 #[.slice a nb cap, .slice (some ⟨g2, 0, none⟩) nb cap2] w2 fun e w' => ∃ (p : Option Addr) (cp : Nat), e = .returned (.slice p (selTo bl l nb).length cp) ∧ Lies w' p ((selTo bl l nb).map Blk.val) ∧ Below w2.heap.size w2 w' := by
  have H0 : Shut (SelInv w2 w2 (.slice none 0 0) bl l 0) := ⟨World.ownsRow_nil _ _ _ _, Below.refl _ _⟩
  obtain ⟨i0, hii, hz0, hz1, hz2⟩ := info_parts infoBlk
  go_enter Tryd.func72, Tryd.ntmps72
  go_wp2
  go_loopw [5, 10] (fun v m wr => ∃ q : Nat, q ≤ nb ∧ m = .int .i64 q ∧ Shut (SelInv w2 wr v bl l q)) (fun _ m _ => nb - (intOf m).toNat)
  case atStart => exact ⟨0, Nat.zero_le _, rfl, H0⟩
  case round =>
    clear H0
    obtain ⟨q, hq, rfl, hI⟩ := hrel
    by_cases hlt : q < nb
    · obtain ⟨ab, ao, rfl⟩ := hla.some (k := q) (by simpa [hlen] using hlt)
      have hqb : q < bl.length := by omega
      have c1 : wr.cell? ⟨ab, ao + q, none⟩ = some (.slice bl[q].a bl[q].l.length bl[q].cap) := (hla.below hI.out.2 (Nat.le_refl _)).at (by simp [hqb, Blk.val])
      have c2 : wr.cell? ⟨g2, q, none⟩ = some (.bool (decide (q ∈ l))) := by
        have h := (hrow.below hI.out.2 (Nat.le_refl _)).at (k := q) (u := inAt l q) (by simp [hlt])
        simpa [inAt] using h
      by_cases hin' : q ∈ l
      · rw [decide_eq_true hin'] at c2
        have HIN := Shut.mk hin'
        have hown := hI.out.1
        have hsz := hI.out.2.size
        have hsl := selTo_length bl l q
        clear hin'
        go_wp2_with (first | (at_builtin; refine wpList_append_own _ rfl _ _ 48 rfl w2.heap.size 36 i0 (.slice none 0 0) 1 24 Tryd.underlying48 hii hz0 hz1 hz2 rfl (by decide) _ _ _ rfl (hown.alloc _) ⟨wr.heap.size, 0, none⟩ 1 1 [.slice bl[q].a bl[q].l.length bl[q].cap] rfl rfl ?c1 ?c2 ?c3 ?c4 ?c5 ?_) | go_in)
        case c1 =>
          intro j u hj
          match j, hj with
          | 0, hj => simp at hj; subst hj; simp [Addr.add]
        case c2 => intro u hu; simp at hu; subst hu; rfl
        case c3 => unfold maxLen; omega
        case c4 => omega
        case c5 => simp; omega
        intro v' w4 hown' hgrow _
        have R := Shut.mk (hI.out.new _ hqb HIN.out hown' hgrow)
        clear hown' hgrow hown hsz c1 c2 hI
        go_wp2
        exact ⟨⟨q + 1, by omega, by go_num, R⟩, by simp [intOf]; omega⟩
      · rw [decide_eq_false hin'] at c2
        have R : Shut (SelInv w2 wr _ bl l (q + 1)) := ⟨by have h := hI.out; unfold SelInv at h ⊢; rw [selTo_out hin']; exact h⟩
        clear hin' hI
        go_wp2
        exact ⟨⟨q + 1, by omega, by go_num, R⟩, by simp [intOf]; omega⟩
    · obtain rfl : q = nb := by omega
      obtain ⟨p, cp, rfl, hlp, hq0⟩ := own_lies hI.out.1
      clear hq0
      have b5 := hI.out.2
      clear hI
      go_wp2
      go_ret
      exact ⟨p, cp, rfl, hlp, b5⟩

theorem make_right (B K : Int) (n k nb i : Nat) (a : Option Addr) (cap : Nat) (c : List UInt8) (w : World) (hg : Good B K n k nb) (hl : c.length = n) (hcap : n ≤ cap) (ha : Lies w a (bs c)) (hi : i ≤ 9999) (hL : Laid w) :
    Calls Tryd.prog 42 #[.agg #[.int .i64 B, .int .i64 K], .slice a c.length cap, .int .i64 i] w fun e w' => ∃ (a' : Option Addr) (c' : Nat), e = .returned (.tuple #[.agg #[.int .i64 i, .slice a' k c'], .int .i64 0]) ∧ Lies w' a' (bs (symL nb k c i)) ∧ Below w.heap.size w w' := by
  obtain ⟨e1, e2⟩ := cutCode_good hg hl
  obtain ⟨rfl, rfl, n1, n2, k1, k2, eN, b1, b2, lo, hi2⟩ := hg
  have hB : I64 n := ⟨by omega, by omega⟩
  have hK : I64 k := ⟨by omega, by omega⟩
  have HN : Shut (c.length ≤ maxLen) := ⟨by unfold maxLen; omega⟩
  have HCAP : Shut (c.length ≤ cap) := ⟨by omega⟩
  have HC := Shut.mk e1
  have HR := Shut.mk e2
  have HL := Shut.mk hl
  clear e1 e2 eN lo hi2 hl hcap
  go_enter Tryd.func42, Tryd.ntmps42
  go_wp2_with fail
  refine (cut_any n k a cap c _ hB hK HN.out HCAP.out ((ha.alloc _).alloc _)).mono ?_
  rintro e w1 ⟨a', bl, rfl, hla, hin, hcaps, hbl, hb⟩
  obtain ⟨x0, x1, y0, y1⟩ := boxes2 hb
  have f0 := frozen2 hb
  have hz := sizes2 hb
  have hb := boxBelow (boxBelow hb)
  rw [HC.out]
  have hbl2 : bl.map Blk.l = cutL nb k c := by rw [hbl, HR.out]
  have hlen : bl.length = nb := by have := congrArg List.length hbl2; simpa [cutL_length] using this
  have HB := Shut.mk hbl2
  clear ha hbl hbl2 hcaps x0 x1
  rw [hlen]
  have HLEN := Shut.mk hlen
  clear hlen
  go_wp2_with fail
  refine (of_any i nb _ hi b1 b2 (hL.below hb)).mono ?_
  rintro e w2 ⟨g2, rfl, hg2, hr2, hb2⟩
  replace y0 := ((bcell hb2).1 _ 0 hz).trans y0
  replace y1 := ((bcell hb2).1 _ 1 hz).trans y1
  replace f0 : ∀ j, w2.frozen? ⟨w.heap.size + 1, j, none⟩ = false := fun j => ((bcell hb2).2 _ j hz).trans (f0 j)
  replace hz : w.heap.size + 1 < w2.heap.size := by have := hb2.size; omega
  replace hla := hla.below hb2 (Nat.le_refl _)
  replace hin := hin.below hb2
  replace hb := hb.trans (hb2.mono hb.size)
  have hrow := rowIs_lies hr2
  clear hr2 hb2
  go_wp2_with fail
  refine (sel_any w2 a' _ bl g2 nb nb (chosen nb i) b2 HLEN.out hla hrow).mono ?_
  rintro e wr ⟨p, cp, rfl, hlp, b5⟩
  have hpl : (selTo bl (chosen nb i) nb).map Blk.l = (picksTo (chosen nb i) nb).map fun j => piece k j c := selTo_l HB.out (Nat.le_refl _)
  have hpp := picks_perm (chosen_lt (i := i) b1 b2) (chosen_nodup b1 b2)
  replace y0 := ((bcell b5).1 _ 0 hz).trans y0
  replace y1 := ((bcell b5).1 _ 1 hz).trans y1
  replace f0 : ∀ j, wr.frozen? ⟨w.heap.size + 1, j, none⟩ = false := fun j => ((bcell b5).2 _ j hz).trans (f0 j)
  replace hz : w.heap.size + 1 < wr.heap.size := by have := b5.size; omega
  replace hb := hb.trans (b5.mono hb.size)
  have hA := add_sel wr p cp (selTo bl (chosen nb i) nb) k (picksTo (chosen nb i) nb) c k1 k2 (by have := selTo_length bl (chosen nb i) nb; omega) hlp (fun b hb => (hin.below b5) b (selTo_mem hb)) hpl (by rw [hpp.length_eq]; exact chosen_pos b1 b2)
  rw [symL_sum hpp b1 b2] at hA
  clear hlp hpl hpp b5 hla hin hrow HB
  generalize (selTo bl (chosen nb i) nb).length = sl at *
  go_wp2_with fail
  refine hA.mono ?_
  rintro e w5 ⟨a5, c5, rfl, hl5, hb5, hn5⟩
  replace y0 := ((bcell hb5).1 _ 0 hz).trans y0
  replace y1 := ((bcell hb5).1 _ 1 hz).trans y1
  replace f0 : ∀ j, w5.frozen? ⟨w.heap.size + 1, j, none⟩ = false := fun j => ((bcell hb5).2 _ j hz).trans (f0 j)
  replace hb := hb.trans (hb5.mono hb.size)
  clear hA hb5
  go_wp2
  obtain ⟨z0, z1⟩ := set2 y0 y1 (.int .i64 i) (.slice a5 k c5)
  have hl6 : Lies ((w5.setCell ⟨w.heap.size + 1, 0, none⟩ (.int .i64 i)).setCell ⟨w.heap.size + 1, 1, none⟩ (.slice a5 k c5)) a5 (bs (symL nb k c i)) :=
    lies_grown (grown_trans (grown_setCell w5 _ 0 _) (grown_setCell _ _ 1 _)) hl5 fun b o e => by have := hn5 b o e; omega
  have hb := (hb.setCell (p := ⟨w.heap.size + 1, 0, none⟩) (by simp) (.int .i64 i)).setCell (p := ⟨w.heap.size + 1, 1, none⟩) (by simp) (.slice a5 k c5)
  generalize (w5.setCell ⟨w.heap.size + 1, 0, none⟩ (.int .i64 i)).setCell ⟨w.heap.size + 1, 1, none⟩ (.slice a5 k c5) = w9 at *
  refine bodyPost_ret (v := .tuple #[.agg #[.int .i64 i, .slice a5 k c5], .int .i64 0]) (by simp [results, Tryd.results42, go_sem, z0, z1]) rfl ?_
  exact ⟨a5, c5, rfl, hl6, hb⟩

theorem makeOk : MakeOk := by
  intro B K id a cap c w hB hK hn hcap ha hL
  by_cases hc : cutCode B K c = 0
  · by_cases hi : id < 0 ∨ 9999 < id
    · have e := symCode_id hc hi
      have e1 : symRes B K c id = [] := by simp [symRes, e]
      have e2 : symID B K c id = 0 := by simp [symID, e]
      rw [e, e1, e2]
      refine (make_bad2 B K id a cap c w hB hK hn hcap ha hc hi).mono ?_
      rintro e w' ⟨rfl, hb⟩
      exact ⟨none, 0, rfl, Lies.nil _ _, hb⟩
    · have e := symCode_ok hc hi
      obtain ⟨n, k, nb, g, hl⟩ := cutCode_zero hc
      have e1 : symRes B K c id = symL nb k c id.toNat := by
        rw [symRes, if_pos e, g.eN, g.eK]
        simp
      have e2 : symID B K c id = id := by simp [symID, e]
      obtain ⟨i, rfl⟩ : ∃ i : Nat, id = i := ⟨id.toNat, by omega⟩
      rw [e, e1, e2, symL_length]
      simp only [Int.toNat_natCast]
      exact make_right B K n k nb i a cap c w g hl (by omega) ha (by omega) hL
  · have e := symCode_cut (id := id) hc
    have e1 : symRes B K c id = [] := by rw [symRes, if_neg (by rw [e]; exact hc)]
    have e2 : symID B K c id = 0 := by rw [symID, if_neg (by rw [e]; exact hc)]
    rw [e, e1, e2]
    refine (make_bad1 B K id a cap c w hB hK hn hcap ha hc).mono ?_
    rintro e w' ⟨rfl, hb⟩
    exact ⟨none, 0, rfl, Lies.nil _ _, hb⟩

theorem checkOk : CheckOk := fun B K id a n cap w hB hK hn => codeCheck_any B K id a n cap w hB hK hn

end Go.Proofs.YtkiejflgphjfjacDoor

/-
  'at' of the statements: its contract.
-/
namespace Go.Proofs.YtkiejflgphjfjacDoor
open Go.RowKit
set_option linter.unusedVariables false
set_option linter.unusedSimpArgs false

/-- a number brought among so many -/
def atN (k n : Int) : Int := if k.tmod n < 0 then k.tmod n + n else k.tmod n

theorem atN_lt (k : Int) {n : Int} (h : 0 < n) : 0 ≤ atN k n ∧ atN k n < n := by
  unfold atN
  have h1 := Int.tmod_lt_of_pos k h
  have h2 := Int.lt_tmod_of_pos k h
  split <;> omega

theorem at_any (k n : Int) (w : World) (hk : -9223372036854775808 ≤ k ∧ k ≤ 9223372036854775807) (hn : 0 < n) (hn2 : n ≤ 9223372036854775807) :
    Calls Tryd.prog 15 #[.int .i64 k, .int .i64 n] w fun e w' => e = .returned (.int .i64 (atN k n)) ∧ w = w' := by
  obtain ⟨hk1, hk2⟩ := hk
  have h1 := Int.tmod_lt_of_pos k hn
  have h2 := Int.lt_tmod_of_pos k hn
  have hn0 : (n == 0) = false := by rw [beq_eq_false_iff_ne]; omega
  have HA : Hid (atN k n = if k.tmod n < 0 then k.tmod n + n else k.tmod n) := rfl
  go_enter Tryd.func15, Tryd.ntmps15
  go_wp2
  · go_ret
    exact ⟨ret_int (by rw [HA.out, if_pos (by assumption)]), rfl⟩
  · go_ret
    exact ⟨ret_int (by rw [HA.out, if_neg (by omega)]), rfl⟩

end Go.Proofs.YtkiejflgphjfjacDoor
