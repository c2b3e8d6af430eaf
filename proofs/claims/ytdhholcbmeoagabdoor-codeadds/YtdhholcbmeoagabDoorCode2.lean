/-
  The reference's SymbolOf: its contract.
-/
import Derived.Test.YtdhholcbmeoagabDoorCode1
import Derived.Test.YtdhholcbmeoagabDoorCut7
import Derived.Test.YtdhholcbmeoagabDoorSum3
import Derived.Test.YtdhholcbmeoagabDoorPick4
import Derived.Deep.RegionHeld3
namespace Go.Proofs.YtdhholcbmeoagabDoor
open Go.RowKit
set_option linter.unusedVariables false
set_option linter.unusedSimpArgs false

theorem symCode_cut {B K id : Int} {c : List UInt8} (h : cutCode B K c ≠ 0) : symCode B K c id = cutCode B K c := if_pos h
theorem symCode_id {B K id : Int} {c : List UInt8} (h : cutCode B K c = 0) (hi : id < 0 ∨ 9999 < id) : symCode B K c id = 3 := by rw [symCode, if_neg (by simp [h]), if_pos hi]
theorem symCode_ok {B K id : Int} {c : List UInt8} (h : cutCode B K c = 0) (hi : ¬ (id < 0 ∨ 9999 < id)) : symCode B K c id = 0 := by rw [symCode, if_neg (by simp [h]), if_neg hi]

/-- the second box is the call's own to write -/
theorem frozen2 {w w1 : World} {o : Obj} {cs : Array Value} {u : TypeId} (hb : Below ((w.alloc o).alloc (.cells cs u)).heap.size ((w.alloc o).alloc (.cells cs u)) w1) :
    ∀ j, w1.frozen? ⟨w.heap.size + 1, j, none⟩ = false := by
  intro j
  rw [(bcell hb).2 _ _ (by simp)]
  have e : ((w.alloc o).alloc (.cells cs u)).heap[w.heap.size + 1]? = some (.cells cs u (0, 0)) := by rw [heap_alloc_eq, if_pos (by simp)]
  simp only [World.frozen?, e]
  simp

/-- both cells of a box, written -/
theorem set2 {w1 : World} {g : Nat} {u v : Value} (h0 : w1.cell? ⟨g, 0, none⟩ = some u) (h1 : w1.cell? ⟨g, 1, none⟩ = some v) (u' v' : Value) :
    ((w1.setCell ⟨g, 0, none⟩ u').setCell ⟨g, 1, none⟩ v').cell? ⟨g, 0, none⟩ = some u' ∧ ((w1.setCell ⟨g, 0, none⟩ u').setCell ⟨g, 1, none⟩ v').cell? ⟨g, 1, none⟩ = some v' := by
  have e0 : (w1.setCell ⟨g, 0, none⟩ u').cell? ⟨g, 0, none⟩ = some u' := World.cell?_setCell_same _ _ _ h0
  have e1 : (w1.setCell ⟨g, 0, none⟩ u').cell? ⟨g, 1, none⟩ = some v := by rw [World.cell?_setCell_other _ _ _ _ (by intro e; cases e)]; exact h1
  exact ⟨by rw [World.cell?_setCell_other _ _ _ _ (by intro e; cases e)]; exact e0, World.cell?_setCell_same _ _ _ e1⟩

theorem sizes2 {w w1 : World} {o : Obj} {o2 : Obj} (hb : Below ((w.alloc o).alloc o2).heap.size ((w.alloc o).alloc o2) w1) : w.heap.size + 1 < w1.heap.size := by
  have := hb.size
  simp at this
  omega

theorem symbolOf_bad1 (B K id : Int) (a : Option Addr) (cap : Nat) (c : List UInt8) (w : World) (hB : I64 B) (hK : I64 K) (hn : c.length ≤ maxLen) (ha : Lies w a (bs c)) (hc : cutCode B K c ≠ 0) :
    Calls Tryd.prog 13 #[.agg #[.int .i64 B, .int .i64 K], .slice a c.length cap, .int .i64 id] w fun e w' => e = .returned (.tuple #[.agg #[.int .i64 0, .slice none 0 0], .int .i64 (cutCode B K c)]) ∧ Below w.heap.size w w' := by
  have hc' : (cutCode B K c != 0) = true := by simpa using hc
  clear hc
  go_enter Tryd.func13, Tryd.ntmps13
  go_wp2_with fail
  refine (cutUp_any B K a cap c _ hB hK hn ((ha.alloc _).alloc _)).mono ?_
  rintro e w1 ⟨a', c', bl, rfl, hl, hin, hbl, hb⟩
  obtain ⟨x0, x1, y0, y1⟩ := boxes2 hb
  have f0 := frozen2 hb
  have hz := sizes2 hb
  have hb := boxBelow (boxBelow hb)
  clear hl hin hbl ha
  obtain ⟨q, hq⟩ : ∃ q, cutCode B K c = q := ⟨_, rfl⟩
  have HQ := Shut.mk hq
  rw [hq] at hc' ⊢
  clear hq
  go_wp2
  obtain ⟨z0, z1⟩ := set2 y0 y1 (.int .i64 0) (.slice none 0 0)
  have hb := (hb.setCell (p := ⟨w.heap.size + 1, 0, none⟩) (by simp) (.int .i64 0)).setCell (p := ⟨w.heap.size + 1, 1, none⟩) (by simp) (.slice none 0 0)
  generalize (w1.setCell ⟨w.heap.size + 1, 0, none⟩ (.int .i64 0)).setCell ⟨w.heap.size + 1, 1, none⟩ (.slice none 0 0) = w9 at *
  refine bodyPost_ret (v := .tuple #[.agg #[.int .i64 0, .slice none 0 0], .int .i64 q]) (by simp [results, Tryd.results13, go_sem, z0, z1]) rfl ?_
  exact ⟨by rw [HQ.out], hb⟩

theorem symbolOf_bad2 (B K id : Int) (a : Option Addr) (cap : Nat) (c : List UInt8) (w : World) (hB : I64 B) (hK : I64 K) (hn : c.length ≤ maxLen) (ha : Lies w a (bs c)) (hc : cutCode B K c = 0) (hi : id < 0 ∨ 9999 < id) :
    Calls Tryd.prog 13 #[.agg #[.int .i64 B, .int .i64 K], .slice a c.length cap, .int .i64 id] w fun e w' => e = .returned (.tuple #[.agg #[.int .i64 0, .slice none 0 0], .int .i64 3]) ∧ Below w.heap.size w w' := by
  have HC := Shut.mk hc
  clear hc
  go_enter Tryd.func13, Tryd.ntmps13
  go_wp2_with fail
  refine (cutUp_any B K a cap c _ hB hK hn ((ha.alloc _).alloc _)).mono ?_
  rintro e w1 ⟨a', c', bl, rfl, hl, hin, hbl, hb⟩
  obtain ⟨x0, x1, y0, y1⟩ := boxes2 hb
  have f0 := frozen2 hb
  have hz := sizes2 hb
  have hb := boxBelow (boxBelow hb)
  rw [HC.out]
  clear hl hin hbl ha
  go_wp2_with fail
  refine (refPicked_bad id bl.length _ (by unfold OutOf; omega)).mono ?_
  rintro e w2 ⟨rfl, rfl⟩
  clear hi
  go_wp2
  obtain ⟨z0, z1⟩ := set2 y0 y1 (.int .i64 0) (.slice none 0 0)
  have hb := (hb.setCell (p := ⟨w.heap.size + 1, 0, none⟩) (by simp) (.int .i64 0)).setCell (p := ⟨w.heap.size + 1, 1, none⟩) (by simp) (.slice none 0 0)
  generalize (w1.setCell ⟨w.heap.size + 1, 0, none⟩ (.int .i64 0)).setCell ⟨w.heap.size + 1, 1, none⟩ (.slice none 0 0) = w9 at *
  refine bodyPost_ret (v := .tuple #[.agg #[.int .i64 0, .slice none 0 0], .int .i64 3]) (by simp [results, Tryd.results13, go_sem, z0, z1]) rfl ?_
  exact ⟨rfl, hb⟩

theorem perm_ints {L : List Int} {m : List Nat} (h : L.Perm (ints m)) : ∃ l, L = ints l ∧ l.Perm m := by
  have hc : ∀ x ∈ L, ((x.toNat : Nat) : Int) = x := fun x hx => by
    obtain ⟨j, _, rfl⟩ := List.mem_map.1 (h.mem_iff.1 hx)
    simp
  refine ⟨L.map Int.toNat, ?_, ?_⟩
  · unfold ints
    rw [List.map_map]
    conv => lhs; rw [← List.map_id L]
    exact List.map_congr_left fun x hx => (hc x hx).symm
  · have := h.map Int.toNat
    unfold ints at this
    rw [List.map_map] at this
    simpa [Function.comp_def] using this

/-- the symbol in the making -/
def SymInv (w2 wr : World) (g k i : Nat) (acc : List UInt8) : Prop :=
  Below w2.heap.size w2 wr ∧ g < wr.heap.size ∧ wr.cell? ⟨g, 0, none⟩ = some (.int .i64 i) ∧ (∃ (a : Option Addr) (c : Nat), wr.cell? ⟨g, 1, none⟩ = some (.slice a k c) ∧ Lies wr a (bs acc) ∧ ∀ b o, a = some ⟨b, o, none⟩ → w2.heap.size ≤ b) ∧ (∀ j, wr.frozen? ⟨g, j, none⟩ = false) ∧ acc.length = k

theorem SymInv.start (w2 : World) (k i : Nat) : SymInv w2 ((w2.alloc (.cells (madeCells #[.int .u8 0] k) 5)).alloc (.cells #[.int .i64 i, .slice (some ⟨w2.heap.size, 0, none⟩) k k] 38)) (w2.heap.size + 1) k i (zeros k) := by
  have hx := BoxS.mk (w2.alloc (.cells (madeCells #[.int .u8 0] k) 5)) i (.slice (some ⟨w2.heap.size, 0, none⟩) k k) 38
  have e : (w2.alloc (.cells (madeCells #[.int .u8 0] k) 5)).heap.size = w2.heap.size + 1 := by simp
  rw [e] at hx
  have hr := World.rowIs_made w2 (.int .u8 0) k 5
  have hl := (rowIs_lies hr).alloc (.cells #[.int .i64 i, .slice (some ⟨w2.heap.size, 0, none⟩) k k] 38)
  refine ⟨((Below.refl _ _).alloc (Nat.le_refl _) _).alloc (by simp) _, by simp, hx.1, ⟨_, _, hx.2, ?_, fun b o e => by cases e; exact Nat.le_refl _⟩, frozen2 (Below.refl _ _), by simp [zeros]⟩
  have e2 : bs (zeros k) = (List.range k).map fun _ => Value.int .u8 0 := by
    apply List.ext_getElem
    · simp [bs, zeros]
    · intro j h1 h2
      simp [bs, zeros]
  rw [e2]
  exact hl

/-- the reference's Sum of two blocks that stand in a list laid anew -/
theorem sum_two (w : World) (a : Option Addr) (ca : Nat) (b : Option Addr) (cb : Nat) (x y : List UInt8) (k : Nat) (hk : k ≤ 16) (hx : x.length = k) (hy : y.length = k) (ha : Lies w a (bs x)) (hb : Lies w b (bs y)) :
    Calls Tryd.prog 29 #[.slice (some ⟨w.heap.size, 0, none⟩) 2 2] (w.alloc (.cells #[.slice a k ca, .slice b k cb] 36)).drew fun e w' =>
      ∃ (p : Option Addr) (q : Nat), e = .returned (.slice p k q) ∧ Lies w' p (bs (xorl x y)) ∧ Below w.heap.size w w' ∧ ∀ c o, p = some ⟨c, o, none⟩ → w.heap.size ≤ c := by
  have hl : Lies (w.alloc (.cells #[.slice a k ca, .slice b k cb] 36)).drew (some ⟨w.heap.size, 0, none⟩) ([⟨a, ca, x⟩, ⟨b, cb, y⟩].map Blk.val) := by
    have h := (Lies.alloc_new w #[.slice a k ca, .slice b k cb] 36).drewN 1
    have e : ([⟨a, ca, x⟩, ⟨b, cb, y⟩].map Blk.val) = (#[.slice a k ca, .slice b k cb] : Array Value).toList := by simp [Blk.val, hx, hy]
    rw [e]
    exact h
  have hbw : Below w.heap.size w (w.alloc (.cells #[.slice a k ca, .slice b k cb] 36)).drew := ((Below.refl _ _).alloc (Nat.le_refl _) _).drew
  have hall : AllIn (w.alloc (.cells #[.slice a k ca, .slice b k cb] 36)).drew [⟨a, ca, x⟩, ⟨b, cb, y⟩] := by
    intro z hz
    simp at hz
    rcases hz with rfl | rfl
    · exact ⟨ha.below hbw (Nat.le_refl _), by unfold maxLen; simp [hx]; omega⟩
    · exact ⟨hb.below hbw (Nat.le_refl _), by unfold maxLen; simp [hy]; omega⟩
  have h := refSum_any (some ⟨w.heap.size, 0, none⟩) 2 k [⟨a, ca, x⟩, ⟨b, cb, y⟩] _ (by simp) hl hall (by simp) (by
    intro i hi
    match i, hi with
    | 0, _ => exact hx
    | 1, _ => exact hy) hk
  refine h.mono ?_
  rintro e w' ⟨v, rfl, hown, hb'⟩
  obtain ⟨p, q, rfl, hl', hn⟩ := own_lies hown
  have hsum : sumBl [⟨a, ca, x⟩, ⟨b, cb, y⟩] = xorl x y := by
    simp only [sumBl, sumOf, List.map_cons, List.map_nil, List.headD_cons, sumTo]
    congr 1
    apply List.ext_getElem
    · rw [xorl_length _ _ (by simp [zeros])]; simp [zeros]
    · intro t h1 h2
      simp [xorl, zeros]
  rw [hsum] at hl'
  refine ⟨p, q, rfl, hl', hbw.trans (hb'.mono hbw.size), ?_⟩
  rintro c o rfl
  have := (hown.lt c rfl).1
  simp at this
  omega

theorem SymInv.next {w2 wr w4 : World} {g k i q : Nat} {acc acc' : List UInt8} {p : Option Addr} (hI : SymInv w2 wr g k i acc) (hb : Below wr.heap.size wr w4) (hl : Lies w4 p (bs acc')) (hk : acc'.length = k) (hg : w2.heap.size ≤ g)
    (hp : ∀ c o, p = some ⟨c, o, none⟩ → wr.heap.size ≤ c) : SymInv w2 (w4.setCell ⟨g, 1, none⟩ (.slice p k q)) g k i acc' := by
  obtain ⟨i1, i2, i3, ⟨da, dc, i4, i5, i8⟩, i6, i7⟩ := hI
  have s0 := ((bcell hb).1 g 0 i2).trans i3
  have s1 := ((bcell hb).1 g 1 i2).trans i4
  refine ⟨(i1.trans (hb.mono i1.size)).setCell (by simpa using hg) _, by have := hb.size; simp; omega, ?_, ⟨p, q, World.cell?_setCell_same _ _ _ s1, ?_, fun b o e => by have := hp b o e; have := i1.size; omega⟩, fun j => ?_, hk⟩
  · rw [World.cell?_setCell_other _ _ _ _ (by intro e; cases e)]; exact s0
  · exact lies_grown (grown_setCell w4 g 1 _) hl fun c o e => by have := hp c o e; omega
  · have := ((bcell hb).2 g j i2).trans (i6 j)
    simpa using this

set_option maxHeartbeats 1000000 in
theorem symbolOf_good (B K : Int) (n k nb i : Nat) (a : Option Addr) (cap : Nat) (c : List UInt8) (w : World) (hg : Good B K n k nb) (hl : c.length = n) (ha : Lies w a (bs c)) (hi : i ≤ 9999) :
    Calls Tryd.prog 13 #[.agg #[.int .i64 B, .int .i64 K], .slice a c.length cap, .int .i64 i] w fun e w' => ∃ (a' : Option Addr) (c' : Nat), e = .returned (.tuple #[.agg #[.int .i64 i, .slice a' k c'], .int .i64 0]) ∧ Lies w' a' (bs (symL nb k c i)) ∧ Below w.heap.size w w' := by
  obtain ⟨e1, e2⟩ := cutCode_good hg hl
  obtain ⟨rfl, rfl, n1, n2, k1, k2, eN, b1, b2, lo, hi2⟩ := hg
  have hB : I64 n := ⟨by omega, by omega⟩
  have hK : I64 k := ⟨by omega, by omega⟩
  have hn : c.length ≤ maxLen := by unfold maxLen; omega
  have HC := Shut.mk e1
  have HR := Shut.mk e2
  have hmk := run_make_row' (P := Tryd.prog) 36 5 (.int .u8 0) 1 Tryd.underlying36 infoU8 rfl .i64 .i64 k (by omega) (by omega)
  have HL := Shut.mk hl
  clear e1 e2 eN lo hi2 hl
  go_enter Tryd.func13, Tryd.ntmps13
  go_wp2_with fail
  refine (cutUp_any n k a cap c _ hB hK hn ((ha.alloc _).alloc _)).mono ?_
  rintro e w1 ⟨a', c', bl, rfl, hla, hin, hbl, hb⟩
  obtain ⟨x0, x1, y0, y1⟩ := boxes2 hb
  have f0 := frozen2 hb
  have hz := sizes2 hb
  have hb := boxBelow (boxBelow hb)
  rw [HC.out]
  have hbl2 : bl.map Blk.l = cutL nb k c := by rw [hbl, HR.out]
  have hlen : bl.length = nb := by have := congrArg List.length hbl2; simpa [cutL_length] using this
  have HB := Shut.mk hbl2
  clear ha hbl hbl2
  rw [hlen]
  go_wp2_with fail
  refine (refPicked_any i nb _ hi b1 b2).mono ?_
  rintro e w2 ⟨a2, c2, L, rfl, hl2, hperm, hb2⟩
  obtain ⟨l, rfl, hlp⟩ := perm_ints hperm
  have HP := Shut.mk hlp
  have hlt : ∀ j ∈ l, j < nb := fun j hj => chosen_lt b1 b2 j (hlp.mem_iff.1 hj)
  have HLT := Shut.mk hlt
  have y0 := ((bcell hb2).1 _ 0 hz).trans y0
  have y1 := ((bcell hb2).1 _ 1 hz).trans y1
  have x1 := ((bcell hb2).1 _ 1 (by omega)).trans x1
  have f0 : ∀ j, w2.frozen? ⟨w.heap.size + 1, j, none⟩ = false := fun j => ((bcell hb2).2 _ j hz).trans (f0 j)
  have hz : w.heap.size + 1 < w2.heap.size := by have := hb2.size; omega
  have hla := hla.below hb2 (Nat.le_refl _)
  have hin := hin.below hb2
  have hb := hb.trans (hb2.mono hb.size)
  clear hperm hlp hlt hb2 x0
  rw [ints_length]
  have hl24 : l.length ≤ 24 := by
    rw [HP.out.length_eq]
    by_cases h : i < nb
    · rw [chosen_low h]; simp
    · obtain ⟨q, e, hq⟩ := chosen_is h b1 b2
      rw [e, hq]
      have := many_le b1 (nx i)
      omega
  have H0 : Shut (SymInv w2 ((w2.alloc (.cells (madeCells #[.int .u8 0] k) 5)).alloc (.cells #[.int .i64 i, .slice (some ⟨w2.heap.size, 0, none⟩) k k] 38)) (w2.heap.size + 1) k i (zeros k)) := ⟨SymInv.start w2 k i⟩
  go_wp2
  clear x1 hmk
  generalize (w2.alloc (.cells (madeCells #[.int .u8 0] k) 5)).alloc (.cells #[.int .i64 i, .slice (some ⟨w2.heap.size, 0, none⟩) k k] 38) = w3 at *
  go_loopw [42] (fun m wr => ∃ q : Nat, q ≤ l.length ∧ m = .int .i64 q ∧ Shut (SymInv w2 wr (w2.heap.size + 1) k i (sumTo (zeros k) ((l.take q).map fun j => piece k j c)))) (fun m _ => l.length - (intOf m).toNat)
  case atStart => exact ⟨0, Nat.zero_le _, rfl, H0⟩
  case round =>
    clear H0
    obtain ⟨q, hq, rfl, hI⟩ := hrel
    by_cases hlt : q < l.length
    · have HN : Shut (sumTo (zeros k) ((l.take (q + 1)).map fun j => piece k j c) = xorl (sumTo (zeros k) ((l.take q).map fun j => piece k j c)) (piece k l[q] c)) := ⟨by
        rw [List.take_succ_eq_append_getElem hlt, List.map_append, sumTo_append]; rfl⟩
      generalize sumTo (zeros k) ((l.take q).map fun j => piece k j c) = acc at *
      obtain ⟨i1, i2, i3, ⟨da, dc, i4, i5, i8⟩, i6, i7⟩ := hI.out
      obtain ⟨b1', o1, rfl⟩ := hl2.some (k := q) (by simpa [ints] using hlt)
      have c1 : wr.cell? ⟨b1', o1 + q, none⟩ = some (.int .i64 (l[q] : Nat)) := (hl2.below i1 (Nat.le_refl _)).at (by simp [ints, hlt])
      have hj : l[q] < nb := HLT.out _ (List.getElem_mem hlt)
      obtain ⟨j, hje⟩ : ∃ j, l[q] = j := ⟨_, rfl⟩
      rw [hje] at c1 hj HN
      obtain ⟨b2', o2, rfl⟩ := hla.some (k := j) (by simpa [hlen] using hj)
      have hjb : j < bl.length := by omega
      have c2' : wr.cell? ⟨b2', o2 + j, none⟩ = some (.slice bl[j].a k bl[j].cap) := by
        have h := (hla.below i1 (Nat.le_refl _)).at (k := j) (u := bl[j].val) (by simp [hjb])
        have e : bl[j].l = piece k j c := by
          have h2 := congrArg (fun x => x[j]?) HB.out
          simp [cutL_get c hj, hjb] at h2
          exact h2
        rw [h, Blk.val, e, piece_length]
      have hS := sum_two wr da dc bl[j].a bl[j].cap acc (piece k j c) k (by omega) i7 (piece_length _ _ _) i5 (by
        have e : bl[j].l = piece k j c := by
          have h2 := congrArg (fun x => x[j]?) HB.out
          simp [cutL_get c hj, hjb] at h2
          exact h2
        have h := (hin.below i1) bl[j] (List.getElem_mem hjb)
        rw [e] at h
        exact h.1)
      have hf := i6 1
      clear hje i3 i5 i6 i7
      go_wp2
      go_region_with (first | (go_at_call 29; refine hS.mono ?_; rintro e w4 ⟨p4, q4, rfl, hl4, hb4, hp4⟩; have s1 := ((bcell hb4).1 _ 1 i2).trans i4; have s2 := ((bcell hb4).2 _ 1 i2).trans hf))
      all_goals
        have R := hI.out.next (q := q4) hb4 hl4 (xorl_length _ _ (by rw [piece_length, hI.out.2.2.2.2.2]) |>.trans hI.out.2.2.2.2.2) (by omega) hp4
        clear hS c1 c2' i1 i2 i4 hf s1 s2 hl4 hb4 hp4
        generalize w4.setCell ⟨w2.heap.size + 1, 1, none⟩ (.slice p4 k q4) = w5 at *
        go_wp2
        exact ⟨⟨q + 1, by omega, by go_num, ⟨by rw [HN.out]; exact R⟩⟩, by simp [intOf]; omega⟩
    · have HE : Shut (l.take q = l) := ⟨List.take_of_length_le (by omega)⟩
      rw [HE.out] at hI
      obtain ⟨i1, i2, i3, ⟨da, dc, i4, i5, i8⟩, i6, i7⟩ := hI.out
      have y0 := ((bcell i1).1 _ 0 hz).trans y0
      have y1 := ((bcell i1).1 _ 1 hz).trans y1
      have f0 : ∀ j, wr.frozen? ⟨w.heap.size + 1, j, none⟩ = false := fun j => ((bcell i1).2 _ j hz).trans (f0 j)
      have hz0 := hz
      have hz : w.heap.size + 1 < wr.heap.size := by have := i1.size; omega
      have hb := hb.trans (i1.mono hb.size)
      have HF : Shut (sumTo (zeros k) (l.map fun j => piece k j c) = symL nb k c i) := ⟨symL_sum HP.out b1 b2⟩
      rw [HF.out] at i5
      clear hI i7
      go_wp2
      obtain ⟨z0, z1⟩ := set2 y0 y1 (.int .i64 i) (.slice da k dc)
      have hl5 : Lies ((wr.setCell ⟨w.heap.size + 1, 0, none⟩ (.int .i64 i)).setCell ⟨w.heap.size + 1, 1, none⟩ (.slice da k dc)) da (bs (symL nb k c i)) :=
        lies_grown (grown_trans (grown_setCell wr _ 0 _) (grown_setCell _ _ 1 _)) i5 fun b o e => by have := i8 b o e; have := hz0; omega
      have hb := (hb.setCell (p := ⟨w.heap.size + 1, 0, none⟩) (by simp) (.int .i64 i)).setCell (p := ⟨w.heap.size + 1, 1, none⟩) (by simp) (.slice da k dc)
      generalize (wr.setCell ⟨w.heap.size + 1, 0, none⟩ (.int .i64 i)).setCell ⟨w.heap.size + 1, 1, none⟩ (.slice da k dc) = w9 at *
      refine bodyPost_ret (v := .tuple #[.agg #[.int .i64 i, .slice da k dc], .int .i64 0]) (by simp [results, Tryd.results13, go_sem, z0, z1]) rfl ?_
      exact ⟨da, dc, rfl, hl5, hb⟩

/-- the reference's SymbolOf -/
theorem symbolOf_any (B K id : Int) (a : Option Addr) (cap : Nat) (c : List UInt8) (w : World) (hB : I64 B) (hK : I64 K) (hn : c.length ≤ maxLen) (ha : Lies w a (bs c)) :
    Calls Tryd.prog 13 #[.agg #[.int .i64 B, .int .i64 K], .slice a c.length cap, .int .i64 id] w fun e w' =>
      ∃ (a' : Option Addr) (c' : Nat), e = .returned (.tuple #[.agg #[.int .i64 (symID B K c id), .slice a' (symRes B K c id).length c'], .int .i64 (symCode B K c id)]) ∧ Lies w' a' (bs (symRes B K c id)) ∧ Below w.heap.size w w' := by
  by_cases hc : cutCode B K c = 0
  · by_cases hi : id < 0 ∨ 9999 < id
    · have e := symCode_id hc hi
      have e1 : symRes B K c id = [] := by simp [symRes, e]
      have e2 : symID B K c id = 0 := by simp [symID, e]
      rw [e, e1, e2]
      refine (symbolOf_bad2 B K id a cap c w hB hK hn ha hc hi).mono ?_
      rintro e w' ⟨rfl, hb⟩
      exact ⟨none, 0, rfl, Lies.nil _ _, hb⟩
    · have e := symCode_ok hc hi
      obtain ⟨n, k, nb, g, hl⟩ := cutCode_zero hc
      have e1 : symRes B K c id = symL nb k c id.toNat := by
        rw [symRes, if_pos e, g.eN, g.eK]
        simp
      have e2 : symID B K c id = id := by simp [symID, e]
      obtain ⟨i, rfl⟩ : ∃ i : Nat, id = i := ⟨id.toNat, by omega⟩
      rw [e, e1, e2, symL_length]
      simp only [Int.toNat_natCast]
      exact symbolOf_good B K n k nb i a cap c w g hl ha (by omega)
  · have e := symCode_cut (id := id) hc
    have e1 : symRes B K c id = [] := by rw [symRes, if_neg (by rw [e]; exact hc)]
    have e2 : symID B K c id = 0 := by rw [symID, if_neg (by rw [e]; exact hc)]
    rw [e, e1, e2]
    refine (symbolOf_bad1 B K id a cap c w hB hK hn ha hc).mono ?_
    rintro e w' ⟨rfl, hb⟩
    exact ⟨none, 0, rfl, Lies.nil _ _, hb⟩

end Go.Proofs.YtdhholcbmeoagabDoor
