import Derived.Test.YtkiejflgphjfjacDoorPart17
import Derived.Test.YtkiejflgphjfjacDoorPart8
import Derived.Test.YtkiejflgphjfjacDoorPart18
import Derived.Deep.CutRange
import Derived.Deep.RegionHeld3
import Derived.Maps.AppendAt
/-
  The statements' 'symbols' of a right cargo: its contract.
-/
namespace Go.Proofs.YtkiejflgphjfjacDoor
open Go.RowKit
set_option linter.unusedVariables false
set_option linter.unusedSimpArgs false

theorem infoSym : (Tryd.prog.info? 39).map (fun i => (i.zero, i.size, i.bytes)) = some (some (.agg #[.int .i64 0, .slice none 0 0]), 2, 32) := by kernel_rfl

/-- the numbers that are taken -/
def idsOf (xs : List Int) : List Nat := (xs.take 60).map fun x => (atN x 10000).toNat

theorem idsOf_le (xs : List Int) : ∀ i ∈ idsOf xs, i ≤ 9999 := by
  intro i hi
  obtain ⟨x, _, rfl⟩ := List.mem_map.1 hi
  have := atN_lt x (n := 10000) (by omega)
  omega

theorem idsOf_length (xs : List Int) : (idsOf xs).length = min 60 xs.length := by simp [idsOf]

theorem own_below2 {w w' : World} {B s : Nat} {e : TypeId} {v : Value} {n : Nat} {xs : List Value} (h : w.ownsRow B e s v n xs) (hb : Below w.heap.size w w') : w'.ownsRow B e s v n xs := by
  refine ⟨h.1, ?_⟩
  rcases h.2 with h0 | ⟨g, cap, cur, rfl, hbg, hg, hnc, hcm, hcs, htake⟩
  · exact .inl h0
  · exact .inr ⟨g, cap, cur, rfl, hbg, blk_below hg hb, hnc, hcm, hcs, htake⟩

/-- what a slice of symbols owns lies at its head -/
theorem own_syms {w : World} {B n : Nat} {e : TypeId} {v : Value} {l : List MSym} (h : w.ownsRow B e 2 v n (symCells l)) : ∃ a cap, v = .slice a n cap ∧ Lies w a (symCells l) ∧ n = l.length ∧ n ≤ cap ∧ (∀ b o, a = some ⟨b, o, none⟩ → B ≤ b ∧ o = 0 ∧ ∀ j, w.frozen? ⟨b, j, none⟩ = false) := by
  have hn : n = l.length := by have := h.1; rw [symCells_length] at this; omega
  rcases h.2 with ⟨rfl, h0⟩ | ⟨g, cap, cur, rfl, hb, hg, hnc, hcm, hcs, htake⟩
  · have : l = [] := List.eq_nil_of_length_eq_zero (by omega)
    subst this
    exact ⟨none, 0, by rw [h0], Lies.nil _ _, hn, by omega, fun b o e => by cases e⟩
  · refine ⟨_, cap, rfl, Lies.mk fun k hk => ?_, hn, hnc, fun b o e => by cases e; exact ⟨hb, rfl, fun j => by simp [World.frozen?, hg]⟩⟩
    simp only [World.cell?, hg]
    have h2 : (symCells l)[k]? = cur.toList[k]? := by
      rw [← htake, List.getElem?_take, if_pos (by rw [symCells_length] at hk; omega)]
    simp at h2
    simp [← h2]

/-- bytes lie in no block that holds none -/
theorem lies_offbox {w : World} {a : Option Addr} {l : List UInt8} {b : Nat} {c : Array Value} {t : TypeId} {f : Nat × Nat} (h : Lies w a (bs l)) (hl : 0 < l.length) (hb : w.heap[b]? = some (.cells c t f)) (hc : ∀ v ∈ c.toList, boxy v = true) : ∀ b' o, a = some ⟨b', o, none⟩ → b' ≠ b := by
  intro b' o e e2
  subst e e2
  have := h.at (k := 0) (u := .int .u8 (l[0].toNat : Int)) (by simp [bs, hl])
  simp only [World.cell?, hb] at this
  have hm : Value.int .u8 (l[0].toNat : Int) ∈ c.toList := by
    have := Array.mem_of_getElem? this
    simpa using this
  have h2 := hc _ hm
  simp [boxy] at h2

theorem boxyS (x : Int) (a : Option Addr) (m c : Nat) : ∀ v ∈ (#[Value.int .i64 x, .slice a m c] : Array Value).toList, boxy v = true := by
  intro v hv
  simp at hv
  rcases hv with rfl | rfl <;> rfl

theorem symRes_good' {B K : Int} {n k nb i : Nat} {c : List UInt8} (g : Good B K n k nb) (hl : c.length = n) (hi : i ≤ 9999) : symCode B K c i = 0 ∧ symID B K c i = i ∧ symRes B K c i = symL nb k c i := by
  obtain ⟨e1, _⟩ := cutCode_good g hl
  have e : symCode B K c i = 0 := by rw [symCode, if_neg (by simp [e1]), if_neg (by omega)]
  refine ⟨e, by simp [symID, e], ?_⟩
  rw [symRes, if_pos e, g.eN, g.eK]
  simp

/-- code.Make where all is right: what it makes is new -/
theorem make_new (B K : Int) (n k nb i : Nat) (a : Option Addr) (cap : Nat) (c : List UInt8) (w : World) (hg : Good B K n k nb) (hl : c.length = n) (hcap : n ≤ cap) (ha : Lies w a (bs c)) (hi : i ≤ 9999) (hL : Laid w) :
    Calls Tryd.prog 42 #[.agg #[.int .i64 B, .int .i64 K], .slice a c.length cap, .int .i64 i] w fun e w' => ∃ (a' : Option Addr) (c' : Nat), e = .returned (.tuple #[.agg #[.int .i64 i, .slice a' k c'], .int .i64 0]) ∧ Lies w' a' (bs (symL nb k c i)) ∧ Below w.heap.size w w' ∧ ∀ b o, a' = some ⟨b, o, none⟩ → w.heap.size ≤ b := by
  obtain ⟨e1, e2⟩ := cutCode_good hg hl
  obtain ⟨rfl, rfl, n1, n2, k1, k2, eN, b1, b2, lo, hi2⟩ := hg
  have hB : I64 n := ⟨by omega, by omega⟩
  have hK : I64 k := ⟨by omega, by omega⟩
  have HN : Shut (c.length ≤ maxLen) := ⟨by unfold maxLen; omega⟩
  have HCAP : Shut (c.length ≤ cap) := ⟨by omega⟩
  have HC := Shut.mk e1
  have HR := Shut.mk e2
  have HL := Shut.mk hl
  clear e1 e2 eN lo hi2 hl hcap
  go_enter Tryd.func42, Tryd.ntmps42
  go_wp2_with fail
  refine (cut_any n k a cap c _ hB hK HN.out HCAP.out ((ha.alloc _).alloc _)).mono ?_
  rintro e w1 ⟨a', bl, rfl, hla, hin, hcaps, hbl, hb⟩
  obtain ⟨x0, x1, y0, y1⟩ := boxes2 hb
  have f0 := frozen2 hb
  have hz := sizes2 hb
  have hb := boxBelow (boxBelow hb)
  rw [HC.out]
  have hbl2 : bl.map Blk.l = cutL nb k c := by rw [hbl, HR.out]
  have hlen : bl.length = nb := by have := congrArg List.length hbl2; simpa [cutL_length] using this
  have HB := Shut.mk hbl2
  clear ha hbl hbl2 hcaps x0 x1
  rw [hlen]
  have HLEN := Shut.mk hlen
  clear hlen
  go_wp2_with fail
  refine (of_any i nb _ hi b1 b2 (hL.below hb)).mono ?_
  rintro e w2 ⟨g2, rfl, hg2, hr2, hb2⟩
  replace y0 := ((bcell hb2).1 _ 0 hz).trans y0
  replace y1 := ((bcell hb2).1 _ 1 hz).trans y1
  replace f0 : ∀ j, w2.frozen? ⟨w.heap.size + 1, j, none⟩ = false := fun j => ((bcell hb2).2 _ j hz).trans (f0 j)
  replace hz : w.heap.size + 1 < w2.heap.size := by have := hb2.size; omega
  replace hla := hla.below hb2 (Nat.le_refl _)
  replace hin := hin.below hb2
  replace hb := hb.trans (hb2.mono hb.size)
  have hrow := rowIs_lies hr2
  clear hr2 hb2
  go_wp2_with fail
  refine (sel_any w2 a' _ bl g2 nb nb (chosen nb i) b2 HLEN.out hla hrow).mono ?_
  rintro e wr ⟨p, cp, rfl, hlp, b5⟩
  have hpl : (selTo bl (chosen nb i) nb).map Blk.l = (picksTo (chosen nb i) nb).map fun j => piece k j c := selTo_l HB.out (Nat.le_refl _)
  have hpp := picks_perm (chosen_lt (i := i) b1 b2) (chosen_nodup b1 b2)
  replace y0 := ((bcell b5).1 _ 0 hz).trans y0
  replace y1 := ((bcell b5).1 _ 1 hz).trans y1
  replace f0 : ∀ j, wr.frozen? ⟨w.heap.size + 1, j, none⟩ = false := fun j => ((bcell b5).2 _ j hz).trans (f0 j)
  replace hz : w.heap.size + 1 < wr.heap.size := by have := b5.size; omega
  replace hb := hb.trans (b5.mono hb.size)
  have hA := add_sel wr p cp (selTo bl (chosen nb i) nb) k (picksTo (chosen nb i) nb) c k1 k2 (by have := selTo_length bl (chosen nb i) nb; omega) hlp (fun b hb => (hin.below b5) b (selTo_mem hb)) hpl (by rw [hpp.length_eq]; exact chosen_pos b1 b2)
  rw [symL_sum hpp b1 b2] at hA
  clear hlp hpl hpp b5 hla hin hrow HB
  generalize (selTo bl (chosen nb i) nb).length = sl at *
  go_wp2_with fail
  refine hA.mono ?_
  rintro e w5 ⟨a5, c5, rfl, hl5, hb5, hn5⟩
  replace y0 := ((bcell hb5).1 _ 0 hz).trans y0
  replace y1 := ((bcell hb5).1 _ 1 hz).trans y1
  replace f0 : ∀ j, w5.frozen? ⟨w.heap.size + 1, j, none⟩ = false := fun j => ((bcell hb5).2 _ j hz).trans (f0 j)
  replace hb := hb.trans (hb5.mono hb.size)
  clear hA hb5
  go_wp2
  obtain ⟨z0, z1⟩ := set2 y0 y1 (.int .i64 i) (.slice a5 k c5)
  have hl6 : Lies ((w5.setCell ⟨w.heap.size + 1, 0, none⟩ (.int .i64 i)).setCell ⟨w.heap.size + 1, 1, none⟩ (.slice a5 k c5)) a5 (bs (symL nb k c i)) :=
    lies_grown (grown_trans (grown_setCell w5 _ 0 _) (grown_setCell _ _ 1 _)) hl5 fun b o e => by have := hn5 b o e; omega
  have hb := (hb.setCell (p := ⟨w.heap.size + 1, 0, none⟩) (by simp) (.int .i64 i)).setCell (p := ⟨w.heap.size + 1, 1, none⟩) (by simp) (.slice a5 k c5)
  have HN5 : Shut (∀ b o, a5 = some ⟨b, o, none⟩ → w.heap.size ≤ b) := ⟨fun b o e => by have := hn5 b o e; omega⟩
  generalize (w5.setCell ⟨w.heap.size + 1, 0, none⟩ (.int .i64 i)).setCell ⟨w.heap.size + 1, 1, none⟩ (.slice a5 k c5) = w9 at *
  refine bodyPost_ret (v := .tuple #[.agg #[.int .i64 i, .slice a5 k c5], .int .i64 0]) (by simp [results, Tryd.results42, go_sem, z0, z1]) rfl ?_
  exact ⟨a5, c5, rfl, hl6, hb, fun b o e => by have := HN5.out b o e; omega⟩

/-- the list in the making -/
def SymsInv (w wr : World) (B K : Int) (nb k : Nat) (c : List UInt8) (v : Value) (ids : List Nat) : Prop :=
  ∃ l : List MSym, wr.ownsRow (w.heap.size + 1) 39 2 v ids.length (symCells l) ∧ l.map MSym.says = ids.map (symOf nb k c) ∧ (∀ y ∈ l, SymIn wr y ∧ ∀ b o, y.a = some ⟨b, o, none⟩ → w.heap.size ≤ b ∧ b < wr.heap.size ∧ v.ownBlock ≠ some b) ∧ wr.heap[w.heap.size]? = some (.cells #[.int .i64 B, .int .i64 K] 23 (0, 0)) ∧ Below w.heap.size w wr

theorem own_lt {w : World} {B s : Nat} {e : TypeId} {v : Value} {n : Nat} {xs : List Value} (h : w.ownsRow B e s v n xs) : ∀ g, v.ownBlock = some g → B ≤ g ∧ g < w.heap.size := by
  intro g hg
  rcases h.2 with ⟨rfl, _⟩ | ⟨g', cap, cur, rfl, hb, hg', _⟩
  · cases hg
  · simp only [Value.ownBlock, Option.some.injEq] at hg
    subst hg
    exact ⟨hb, blk_lt hg'⟩

theorem lies_lt {w : World} {a : Option Addr} {l : List Value} (h : Lies w a l) (hl : 0 < l.length) : ∀ b o, a = some ⟨b, o, none⟩ → b < w.heap.size := by
  intro b o e
  subst e
  have h0 := h.at (k := 0) (u := l[0]) (by simp [hl])
  exact World.block_lt_of_cell? w _ h0

theorem lies_grownBy {w w' : World} {row : Option Nat} (h : w.grownBy w' row) {a : Option Addr} {xs : List Value} (hl : Lies w a xs) (hne : ∀ b off, a = some ⟨b, off, none⟩ → row ≠ some b) : Lies w' a xs := by
  intro k u hu
  obtain ⟨b, off, e, hc⟩ := hl k u hu
  exact ⟨b, off, e, h.cell hc (by have := hne b off e; exact fun e => this e.symm)⟩

theorem SymsInv.next {w wr wx w4 : World} {B K : Int} {n nb k i dc : Nat} {c : List UInt8} {v v' : Value} {ids : List Nat} {l : List MSym} {da : Option Addr} {o : Obj}
    (g : Good B K n k nb) (hm : l.map MSym.says = ids.map (symOf nb k c)) (hall : ∀ y ∈ l, SymIn wr y ∧ ∀ b o, y.a = some ⟨b, o, none⟩ → w.heap.size ≤ b ∧ b < wr.heap.size ∧ v.ownBlock ≠ some b)
    (hp : wr.heap[w.heap.size]? = some (.cells #[.int .i64 B, .int .i64 K] 23 (0, 0))) (hb : Below w.heap.size w wr) (hv : ∀ g, v.ownBlock = some g → w.heap.size + 1 ≤ g ∧ g < wr.heap.size)
    (hbx : Below wr.heap.size wr wx) (hd : Lies wx da (bs (symL nb k c i))) (hdn : ∀ b o, da = some ⟨b, o, none⟩ → wr.heap.size ≤ b)
    (ho : w4.ownsRow (w.heap.size + 1) 39 2 v' (ids.length + 1) (symCells l ++ [.int .i64 i, .slice da k dc])) (hg : (wx.alloc o).grownBy w4 v.ownBlock) (hvv : v'.ownBlock = v.ownBlock ∨ v'.ownBlock = some (wx.alloc o).heap.size) :
    SymsInv w w4 B K nb k c v' (ids ++ [i]) := by
  have hk1 := g.k1
  have hk2 := g.k2
  have hbx1 : Below wr.heap.size wr (wx.alloc o) := hbx.alloc hbx.size o
  have hsz := hbx.size
  have hszw := hb.size
  have hg4 := hg.size
  simp at hg4
  have hlk : (bs (symL nb k c i)).length = k := by simp [bs, symL_length]
  have hdlt := lies_lt hd (by omega)
  have hvne : ∀ b, b < wr.heap.size ∨ wr.heap.size ≤ b ∧ b < wx.heap.size → v.ownBlock ≠ some b → v'.ownBlock ≠ some b := by
    intro b hb2 hn e
    rcases hvv with h | h
    · exact hn (h ▸ e)
    · rw [h] at e; simp at e; omega
  refine ⟨l ++ [⟨i, da, dc, symL nb k c i⟩], ?_, ?_, ?_, ?_, ?_⟩
  · rw [symCells_append]
    simpa [symCells, MSym.dv, symL_length] using ho
  · simp [hm, MSym.says, symOf]
  · intro y hy
    rcases List.mem_append.1 hy with hy | hy
    · obtain ⟨h1, h2⟩ := hall y hy
      have h3 := h1.below hbx1
      refine ⟨⟨lies_grownBy hg h3.1 fun b o e => (h2 b o e).2.2, h3.2⟩, fun b o e => ⟨(h2 b o e).1, by have := (h2 b o e).2.1; omega, hvne b (.inl (h2 b o e).2.1) (h2 b o e).2.2⟩⟩
    · simp at hy
      subst hy
      have hne : ∀ b o, da = some ⟨b, o, none⟩ → v.ownBlock ≠ some b := fun b o e h => by have := hdn b o e; have := hv b h; omega
      refine ⟨⟨lies_grownBy hg (hd.alloc o) fun b o e => hne b o e, ?_⟩, fun b o e => ⟨?_, ?_, ?_⟩⟩
      · simp only [symL_length]; unfold maxLen; omega
      · have := hdn b o e; omega
      · have := hdlt b o e; omega
      · exact hvne b (.inr ⟨hdn b o e, hdlt b o e⟩) (hne b o e)
  · have h1 := blk_below hp hbx1
    have h2 := blk_lt hp
    rw [hg.block _ (by simp; omega) (fun e => by have := hv _ e.symm; omega)]
    exact h1
  · refine (hb.trans (hbx1.mono hb.size)).grown hg (by simp; omega) ?_
    intro b h
    have := hv b h
    omega

theorem SymsInv.box {wr wx : World} {B K : Int} {nb k : Nat} {c : List UInt8} : True := trivial

theorem idsOf_take {xs : List Int} {q : Nat} (hq : q < xs.length) (h60 : q < 60) : idsOf (xs.take (q + 1)) = idsOf (xs.take q) ++ [(atN xs[q] 10000).toNat] := by
  unfold idsOf
  rw [List.take_take, List.take_take, Nat.min_eq_right (by omega), Nat.min_eq_right (by omega), List.take_succ_eq_append_getElem hq, List.map_append]
  rfl

theorem idsOf_all {xs : List Int} {q : Nat} (h : min xs.length 60 = q) : idsOf (xs.take q) = idsOf xs := by
  unfold idsOf
  rw [List.take_take]
  by_cases h2 : xs.length ≤ 60
  · rw [List.take_of_length_le (by omega), List.take_of_length_le (by omega)]
  · rw [show min 60 q = 60 by omega]

theorem below_new2 {Y w' : World} {x y : Value} {t : TypeId} (hb : Below ((Y.alloc (.cells #[x, y] t)).heap.size) (Y.alloc (.cells #[x, y] t)) w') : w'.heap[Y.heap.size]? = some (.cells #[x, y] t (0, 0)) :=
  blk_below (by rw [heap_alloc_eq, if_pos rfl]) hb

theorem below_new2d {Y w' : World} {x y : Value} {t : TypeId} (hb : Below (((Y.alloc (.cells #[x, y] t)).drew).heap.size) ((Y.alloc (.cells #[x, y] t)).drew) w') : w'.heap[Y.heap.size]? = some (.cells #[x, y] t (0, 0)) := by
  have h0 : ((Y.alloc (.cells #[x, y] t)).drew).heap[Y.heap.size]? = some (.cells #[x, y] t (0, 0)) := by
    show (Y.alloc (.cells #[x, y] t)).heap[Y.heap.size]? = _
    rw [heap_alloc_eq, if_pos rfl]
  exact blk_below h0 hb

theorem cells2 {w : World} {b : Nat} {x y : Value} {t : TypeId} (h : w.heap[b]? = some (.cells #[x, y] t (0, 0))) : w.cell? ⟨b, 0, none⟩ = some x ∧ w.cell? ⟨b, 1, none⟩ = some y := by
  have x0 := cell_blk h 0
  have x1 := cell_blk h 1
  simp at x0 x1
  exact ⟨x0, x1⟩

theorem set2_blk {w : World} {b : Nat} {x y u0 u1 : Value} {t : TypeId} (h : w.heap[b]? = some (.cells #[x, y] t (0, 0))) : ((w.setCell ⟨b, 0, none⟩ u0).setCell ⟨b, 1, none⟩ u1).heap[b]? = some (.cells #[u0, u1] t (0, 0)) := by
  rw [heap_set (o := 1) (v := u1) (heap_set (o := 0) (v := u0) h)]
  simp

/-- behind the region that makes one -/
def SymsMid (wr wx : World) (sb : Nat) (i k nb : Nat) (c : List UInt8) (da : Option Addr) (dc : Nat) : Prop :=
  wx.heap[sb]? = some (.cells #[.int .i64 i, .slice da k dc] 39 (0, 0)) ∧ Lies wx da (bs (symL nb k c i)) ∧ (∀ b o, da = some ⟨b, o, none⟩ → wr.heap.size ≤ b) ∧ Below wr.heap.size wr wx

theorem SymsMid.last {wr W w5 : World} {i k nb dc : Nat} {c : List UInt8} {da : Option Addr} (hW : Below wr.heap.size wr W) (hb : Below W.heap.size W w5) (hl : Lies w5 da (bs (symL nb k c i))) (hn : ∀ b o, da = some ⟨b, o, none⟩ → W.heap.size ≤ b) :
    SymsMid wr (w5.alloc (.cells #[.int .i64 i, .slice da k dc] 39)) w5.heap.size i k nb c da dc := by
  have hs := hW.size
  have hb2 := hW.trans (hb.mono hW.size)
  exact ⟨by rw [heap_alloc_eq, if_pos rfl], hl.alloc _, fun b o e => Nat.le_trans hs (hn b o e), hb2.alloc hb2.size _⟩

theorem SymsMid.set {wr W w5 : World} {i k nb dc sb : Nat} {c : List UInt8} {da : Option Addr} {x y : Value} (hW : Below wr.heap.size wr W) (hb : Below W.heap.size W w5) (hl : Lies w5 da (bs (symL nb k c i))) (hn : ∀ b o, da = some ⟨b, o, none⟩ → W.heap.size ≤ b)
    (hx : w5.heap[sb]? = some (.cells #[x, y] 39 (0, 0))) (h1 : wr.heap.size ≤ sb) (h2 : sb < W.heap.size) :
    SymsMid wr ((w5.setCell ⟨sb, 0, none⟩ (.int .i64 i)).setCell ⟨sb, 1, none⟩ (.slice da k dc)) sb i k nb c da dc := by
  have hs := hW.size
  have hb2 := hW.trans (hb.mono hW.size)
  refine ⟨set2_blk hx, lies_grown (grown_trans (grown_setCell w5 sb 0 _) (grown_setCell _ sb 1 _)) hl fun b o e => by have := hn b o e; omega, fun b o e => Nat.le_trans hs (hn b o e), (hb2.setCell (p := ⟨sb, 0, none⟩) (by simpa using h1) _).setCell (p := ⟨sb, 1, none⟩) (by simpa using h1) _⟩

set_option maxHeartbeats 4000000 in
set_option maxRecDepth 8000 in
theorem symbols_good (B K : Int) (n k nb : Nat) (a : Option Addr) (cap : Nat) (c : List UInt8) (ia : Option Addr) (ic m : Nat) (xs : List Int) (w : World) (g : Good B K n k nb) (hB : I64 B) (hK : I64 K) (hl : c.length = n) (hcap : n ≤ cap) (ha : Lies w a (bs c)) (hi : Lies w ia (xs.map (Value.int .i64))) (hix : ∀ x ∈ xs, I64 x) (hxm : xs.length = m) (hmm : m ≤ maxLen) (hic : m ≤ ic) (hic2 : ic ≤ maxLen) (hL : Laid w) :
    Calls Tryd.prog 14 #[.agg #[.int .i64 B, .int .i64 K], .slice a n cap, .slice ia m ic] w fun e w' =>
      ∃ v, e = .returned v ∧ ∃ l : List MSym, w'.ownsRow (w.heap.size + 1) 39 2 v (idsOf xs).length (symCells l) ∧ l.map MSym.says = (idsOf xs).map (symOf nb k c) ∧ (∀ y ∈ l, SymIn w' y ∧ ∀ b o, y.a = some ⟨b, o, none⟩ → w.heap.size ≤ b ∧ b < w'.heap.size ∧ v.ownBlock ≠ some b) ∧ Below w.heap.size w w' := by
  unfold maxLen at hmm hic2
  have hBl : Below w.heap.size w (w.alloc (.cells #[.int .i64 B, .int .i64 K] 23)) := (Below.refl _ _).alloc (Nat.le_refl _) _
  have H0 : Shut (SymsInv w (w.alloc (.cells #[.int .i64 B, .int .i64 K] 23)) B K nb k c (.slice none 0 0) (idsOf (xs.take 0))) := ⟨[], World.ownsRow_nil _ _ _ _, rfl, (fun y hy => by cases hy), by rw [heap_alloc_eq, if_pos rfl], hBl⟩
  obtain ⟨i0, hii, hz0, hz1, hz2⟩ := info_parts infoSym
  have hMk : ∀ (i : Nat) (W : World), i ≤ 9999 → Below w.heap.size w W → Calls Tryd.prog 42 #[.agg #[.int .i64 B, .int .i64 K], .slice a n cap, .int .i64 i] W fun e w' => ∃ (a' : Option Addr) (c' : Nat), e = .returned (.tuple #[.agg #[.int .i64 i, .slice a' k c'], .int .i64 0]) ∧ Lies w' a' (bs (symL nb k c i)) ∧ Below W.heap.size W w' ∧ ∀ b o, a' = some ⟨b, o, none⟩ → W.heap.size ≤ b := fun i W hi hb => by
    have h := make_new B K n k nb i a cap c W g hl hcap (ha.below hb (Nat.le_refl _)) hi (hL.below hb)
    rw [hl] at h
    exact h
  have HX := Shut.mk (And.intro g (And.intro hi (And.intro hix hxm)))
  obtain ⟨q60, hq60⟩ : ∃ q60 : Nat, min m 60 = q60 := ⟨_, rfl⟩
  have hle60 : q60 ≤ 60 := by omega
  have hlem : q60 ≤ m := by omega
  have hmin : min (m : Int) 60 = (q60 : Int) := by omega
  have HM := Shut.mk hq60
  clear g hl hcap ha hi hix hxm hL hBl hq60
  go_enter Tryd.func14, Tryd.ntmps14
  go_upto_region 3 with fail
  go_loopw [7, 18] (fun v i wr => ∃ q : Nat, q ≤ q60 ∧ i = .int .i64 q ∧ Shut (SymsInv w wr B K nb k c v (idsOf (xs.take q)))) (fun _ i _ => q60 - (intOf i).toNat)
  case atStart => exact ⟨0, Nat.zero_le _, rfl, H0⟩
  case round =>
    clear H0
    obtain ⟨q, hq, rfl, HI⟩ := hrel
    by_cases hlt : q < q60
    · obtain ⟨l, hown, hmp, hall, hp, hb⟩ := HI.out
      have hqx : q < xs.length := by rw [HX.out.2.2.2]; omega
      have hIX := HX.out.2.2.1 _ (List.getElem_mem hqx)
      have HTK := Shut.mk (idsOf_take hqx (by omega))
      have hlw := HX.out.2.1.below hb (Nat.le_refl _)
      obtain ⟨ab, ao, haa⟩ := hlw.some (k := q) (by simpa using hqx)
      rw [haa] at hlw
      have a0 : _ = some (Value.int .i64 xs[q]) := hlw.at (k := q) (by simp [hqx])
      generalize xs[q]'hqx = x at *
      have hat := fun W => at_any x 10000 W hIX (by omega) (by omega)
      obtain ⟨h1, h2⟩ := atN_lt x (n := 10000) (by omega)
      obtain ⟨i, hi⟩ : ∃ i : Nat, atN x 10000 = i := ⟨(atN x 10000).toNat, by omega⟩
      have hi9 : i ≤ 9999 := by omega
      rw [hi] at hat
      have HII : Shut ((atN x 10000).toNat = i) := ⟨by omega⟩
      have HST := Shut.mk (And.intro hown (And.intro hmp (And.intro hall (And.intro hp hb))))
      obtain ⟨p0, p1⟩ := cells2 hp
      clear hown hmp hall hp hlw h1 h2 hi HI
      subst haa
      go_upto_region 5 with fail
      go_cut [10, 11, 18] from 18 to 36 (fun s10 s11 s18 wx => ∃ sb da dc, s10 = .pointer (some ⟨sb, 0, none⟩) ∧ s11 = .int .i64 0 ∧ s18 = .int .i64 q ∧ Shut (SymsMid wr wx sb i k nb c da dc))
      case first =>
        have D1 : Shut (Below wr.heap.size wr wr.drew) := ⟨(Below.refl _ _).drew⟩
        have D2 : Shut (Below wr.heap.size wr (wr.drew.alloc (.cells #[.int .i64 0, .slice none 0 0] 39))) := ⟨((Below.refl _ _).drew).alloc (Nat.le_refl _) _⟩
        have D3 : Shut (Below wr.heap.size wr ((wr.alloc (.cells #[.int .i64 0, .slice none 0 0] 39)).drew)) := ⟨((Below.refl _ _).alloc (Nat.le_refl _) _).drew⟩
        have hMd1 := hMk i wr.drew hi9 (hb.trans (D1.out.mono hb.size))
        have hMd2 := hMk i _ hi9 (hb.trans (D2.out.mono hb.size))
        have hMd3 := hMk i _ hi9 (hb.trans (D3.out.mono hb.size))
        have x0 : wr.drew.cell? ⟨w.heap.size, 0, none⟩ = some (.int .i64 B) := p0
        have x1 : wr.drew.cell? ⟨w.heap.size, 1, none⟩ = some (.int .i64 K) := p1
        have lt1 : w.heap.size < wr.heap.size := blk_lt HST.out.2.2.2.1
        clear hMk
        go_region_held3 (fun w' => w'.cell? ⟨w.heap.size, 0, none⟩ = some (.int .i64 B) ∧ w'.cell? ⟨w.heap.size, 1, none⟩ = some (.int .i64 K)) (first | exact ⟨by assumption, by assumption⟩ | exact ⟨cellA' (by assumption) _, cellA' (by assumption) _⟩ | (refine ⟨?_, ?_⟩ <;> (rw [World.cell?_setCell_other _ _ _ _ (by intro e; injection e; omega), World.cell?_setCell_other _ _ _ _ (by intro e; injection e; omega)]; assumption))) (first | (go_at_call 15; refine (hat _).mono ?_; rintro e w4 ⟨rfl, rfl⟩) | (go_at_call 42; (first | refine hMd1.mono ?_ | refine hMd2.mono ?_ | refine hMd3.mono ?_); rintro e w5 ⟨a5, c5, rfl, hl5, hb5, hn5⟩; have HN5 := Shut.mk hn5; have v2 := cellC (b := w.heap.size) (o := 0) (v := .int .i64 B) (by first | assumption | exact cellA' (by assumption) _) hb5; have v3 := cellC (b := w.heap.size) (o := 1) (v := .int .i64 K) (by first | assumption | exact cellA' (by assumption) _) hb5; first | (have tk : w5.heap[wr.heap.size]? = some (.cells #[.int .i64 0, .slice none 0 0] 39 (0, 0)) := (by first | exact below_new2 (Y := wr.drew) hb5 | exact below_new2d (Y := wr) hb5); have t0 : w5.cell? ⟨wr.heap.size, 0, none⟩ = some (.int .i64 0) := (cells2 tk).1; have t1 : w5.cell? ⟨wr.heap.size, 1, none⟩ = some (.slice none 0 0) := (cells2 tk).2; have t3 := frozen_blk tk 0; have t4 := frozen_blk tk 1) | skip))
        · have R := Shut.mk (SymsMid.last (dc := c5) (nb := nb) D1.out hb5 hl5 HN5.out)
          clear hb5 hl5
          go_wp2
          go_meet
          exact ⟨_, _, _, rfl, rfl, rfl, R⟩
        all_goals
          have R := Shut.mk (SymsMid.set (dc := c5) (nb := nb) (sb := wr.heap.size) D2.out hb5 hl5 HN5.out tk (Nat.le_refl _) (by simp))
          clear hb5 hl5
          go_wp2
          go_meet
          exact ⟨_, _, _, rfl, rfl, rfl, R⟩
      case rest =>
        obtain ⟨sb, da, dc, rfl, rfl, rfl, HMD⟩ := hcut
        clear p0 p1 hMk
        obtain ⟨z0, z1⟩ := cells2 HMD.out.1
        have hlw := HST.out.1.lt
        have hown := (own_below2 HST.out.1 HMD.out.2.2.2).alloc (.cells #[.int .i64 i, .slice da k dc] 39)
        have hszx := HMD.out.2.2.2.size
        have hszw := hb.size
        have hidl : (idsOf (xs.take q)).length ≤ 60 := by rw [idsOf_length]; omega
        go_wp2_with (first | (at_builtin; refine wpList_append_own_at _ rfl _ _ 24 rfl (w.heap.size + 1) 39 i0 (.agg #[.int .i64 0, .slice none 0 0]) 2 32 Tryd.underlying24 hii hz0 hz1 hz2 rfl (by decide) _ _ _ rfl hown ⟨wc.heap.size, 0, none⟩ 1 1 [.int .i64 i, .slice da k dc] rfl rfl ?c1 ?c2 ?c3 ?c4 ?c5 ?_) | go_in)
        case c1 =>
          intro j u hj
          match j, hj with
          | 0, hj => simp at hj; subst hj; simp [Addr.add]
          | 1, hj => simp at hj; subst hj; simp [Addr.add]
        case c2 => intro u hu; simp at hu; rcases hu with rfl | rfl <;> rfl
        case c3 => unfold maxLen; omega
        case c4 => omega
        case c5 => simp; omega
        intro v' w4 hown' hgrow _ hvv
        have R : Shut (SymsInv w w4 B K nb k c v' (idsOf (xs.take (q + 1)))) := ⟨by
          have h := SymsInv.next HX.out.1 HST.out.2.1 HST.out.2.2.1 HST.out.2.2.2.1 HST.out.2.2.2.2 HST.out.1.lt HMD.out.2.2.2 HMD.out.2.1 HMD.out.2.2.1 hown' hgrow (by simpa using hvv)
          rw [HTK.out, HII.out]
          exact h⟩
        clear hown' hgrow hown hvv z0 z1 hszx
        go_wp2
        go_roundw
        case rel => exact ⟨q + 1, by omega, by go_num, R⟩
        case measure => simp [intOf]; omega
    · obtain rfl : q = q60 := by omega
      obtain ⟨l, hown, hmp, hall, hp, hb⟩ := HI.out
      have HE := Shut.mk (idsOf_all (xs := xs) (q := q) (by rw [HX.out.2.2.2]; exact HM.out))
      have R : Shut (∃ l : List MSym, wr.ownsRow (w.heap.size + 1) 39 2 u7 (idsOf xs).length (symCells l) ∧ l.map MSym.says = (idsOf xs).map (symOf nb k c) ∧ (∀ y ∈ l, SymIn wr y ∧ ∀ b o, y.a = some ⟨b, o, none⟩ → w.heap.size ≤ b ∧ b < wr.heap.size ∧ u7.ownBlock ≠ some b) ∧ Below w.heap.size w wr) := ⟨l, by rw [← HE.out]; exact hown, by rw [← HE.out]; exact hmp, hall, hb⟩
      clear hown hmp hall hp hb HI
      go_wp2
      go_ret
      exact ⟨_, rfl, R.out⟩

end Go.Proofs.YtkiejflgphjfjacDoor

/-
  The cargo's blocks, in memory; Cut where it answers an error.
-/
namespace Go.Proofs.YtkiejflgphjfjacDoor
open Go.RowKit
set_option linter.unusedVariables false
set_option linter.unusedSimpArgs false

theorem grown_of_below {w w' : World} {row : Option Nat} (h : Below w.heap.size w w') : w.grownBy w' row := ⟨h.os, h.tape, h.output, h.size, fun k hk _ => h.block k hk⟩

/-- the cargo's blocks, in memory -/
def CutsOf (W : World) (nb k : Nat) (c : List UInt8) (ba : Option Addr) (bl : List Blk) : Prop :=
  Lies W ba (bl.map Blk.val) ∧ AllIn W bl ∧ bl.length = nb ∧ ∀ (j : Nat) (hj : j < bl.length), bl[j].l = piece k j c

theorem CutsOf.below {W W' : World} {nb k : Nat} {c : List UInt8} {ba : Option Addr} {bl : List Blk} (h : CutsOf W nb k c ba bl) (hb : Below W.heap.size W W') : CutsOf W' nb k c ba bl :=
  ⟨h.1.below hb (Nat.le_refl _), h.2.1.below hb, h.2.2⟩

theorem cut_blocks (n k nb : Nat) (a : Option Addr) (cap : Nat) (c : List UInt8) (w : World) (g : Good n k n k nb) (hl : c.length = n) (hcap : n ≤ cap) (ha : Lies w a (bs c)) :
    Calls Tryd.prog 22 #[.agg #[.int .i64 n, .int .i64 k], .slice a n cap] w fun e w' => ∃ (ba : Option Addr) (bl : List Blk), e = .returned (.tuple #[.slice ba nb nb, .int .i64 0]) ∧ Shut (CutsOf w' nb k c ba bl) ∧ Below w.heap.size w w' := by
  have n2 := g.n2
  have k2 := g.k2
  have h := cut_any n k a cap c w ⟨by omega, by omega⟩ ⟨by omega, by omega⟩ (by unfold maxLen; omega) (by omega) ha
  obtain ⟨e1, e2⟩ := cutCode_good g hl
  rw [e1, hl] at h
  refine h.mono ?_
  rintro e w' ⟨a', bl, rfl, h1, h2, _, h4, h5⟩
  rw [e2] at h4
  have hlen : bl.length = nb := by have := congrArg List.length h4; simpa [cutL] using this
  refine ⟨a', bl, by rw [hlen], ⟨h1, h2, hlen, fun j hj => ?_⟩, h5⟩
  have h6 : (bl.map Blk.l)[j]? = (cutL nb k c)[j]? := by rw [h4]
  simp [cutL, hj] at h6
  rw [List.getElem?_range (by omega)] at h6
  simpa using h6

theorem cutW_bad (B K : Int) (a : Option Addr) (cap : Nat) (c : List UInt8) (w : World) (q : Int) (hq : cutCode B K c = q) (h0 : q ≠ 0) (hB : I64 B) (hK : I64 K) (hm : c.length ≤ maxLen) (hcap : c.length ≤ cap) (ha : Lies w a (bs c)) :
    Calls Tryd.prog 22 #[.agg #[.int .i64 B, .int .i64 K], .slice a c.length cap] w fun e w' => ∃ (ba : Option Addr) (z : Nat), e = .returned (.tuple #[.slice ba z z, .int .i64 q]) ∧ Below w.heap.size w w' := by
  refine (cut_any B K a cap c w hB hK hm hcap ha).mono ?_
  rintro e w' ⟨a', bl, rfl, _, _, _, _, h5⟩
  exact ⟨a', bl.length, by rw [hq], h5⟩

end Go.Proofs.YtkiejflgphjfjacDoor
