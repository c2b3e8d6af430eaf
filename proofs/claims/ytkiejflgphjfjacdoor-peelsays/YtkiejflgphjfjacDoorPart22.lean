import Derived.Test.YtkiejflgphjfjacDoorPart21
import Derived.Test.YtkiejflgphjfjacDoorPart19
import Derived.RegionTactic
import Derived.BigRegion
import Derived.Deep.RegionLaw
import Derived.Shelf.Abstract
import Derived.Lib.SliceRun
/-
  peel.Known: its contract.
-/
namespace Go.Proofs.YtkiejflgphjfjacDoor
open Go.RowKit
set_option linter.unusedVariables false
set_option linter.unusedSimpArgs false

/-- nothing is known -/
def noneK (nb : Nat) : Kn := List.replicate nb []

theorem noneK_ok (nb k : Nat) : KOk nb k (noneK nb) := ⟨by simp [noneK], fun d hd => .inl (List.eq_of_mem_replicate hd)⟩

theorem noneK_knw (nb j : Nat) : knw (noneK nb) j = false := by
  unfold knw noneK
  rw [List.getD_eq_getElem?_getD, List.getElem?_replicate]
  split <;> simp

/-- what chapter 6's Known answers -/
noncomputable def peeCode (B K : Int) (ls : List LSym) : Int := if chkP B K ≠ 0 then chkP B K else if 60 < ls.length then 2 else chkAll B K ls
noncomputable def peeRes (nb k : Nat) (ls : List LSym) : Kn := peelL nb k (ls.map (rowOf nb)) (noneK nb)

def nilV : Value → Bool
  | .slice none _ _ => true
  | _ => false

def isT : Value → Bool
  | .bool b => b
  | _ => false

/-- how many blocks aren't known, read off the memory -/
def unkW (w : World) (kb : Nat) : Nat :=
  match w.heap[kb]? with
  | some (.cells c _ _) => c.toList.countP nilV
  | _ => 0

theorem KnAt.unk {w : World} {kb nb k : Nat} {bl : List Blk} {K : Kn} (h : KnAt w kb nb k bl K) : unkW w kb = cntU K := by
  obtain ⟨h1, h2, h3, h4, h5, h6, h7⟩ := h
  unfold unkW cntU
  rw [h1, ← h5]
  simp only [List.countP_map]
  refine List.countP_congr fun b hb => ?_
  show nilV b.val = true ↔ b.l.isEmpty = true
  constructor
  · intro hv
    cases ha : b.a with
    | none =>
      have := (h3 b hb).1
      rw [ha] at this
      rcases Nat.eq_zero_or_pos b.l.length with h0 | h0
      · simpa using h0
      · obtain ⟨_, _, e⟩ := this.some (k := 0) (by simpa [bs] using h0)
        cases e
    | some a => unfold Blk.val nilV at hv; rw [ha] at hv; cases hv
  · intro he
    rw [h4 b hb (by simpa using he)]
    rfl

theorem KnAt.start (w : World) (nb k : Nat) : KnAt (w.alloc (.cells (madeCells #[Value.slice none 0 0] nb) 36)) w.heap.size nb k (List.replicate nb nilB) (noneK nb) := by
  refine ⟨?_, by simp, fun b hb => ?_, fun b hb _ => List.eq_of_mem_replicate hb, by simp [noneK, nilB], noneK_ok nb k, fun b hb g o e => ?_⟩
  · obtain ⟨c, hc, hs, hv⟩ := World.rowIs_made w (.slice none 0 0) nb 36
    rw [hc]
    congr 2
    apply Array.ext
    · simp [hs]
    · intro i h1 h2
      have := hv i (by omega)
      rw [Array.getElem?_eq_getElem h1] at this
      simp [Option.some.inj this, Blk.val, nilB]
  · rw [List.eq_of_mem_replicate hb]
    exact ⟨Lies.nil _ _, by simp [nilB]⟩
  · rw [List.eq_of_mem_replicate hb] at e
    cases e

/-- the state of Known's loop -/
def PkSt (w2 wr : World) (kb nb k : Nat) (ra : Option Addr) (z rc : Nat) (more : Bool) (F : Kn) : Prop :=
  ∃ (rows : List MRow) (A : List LRow) (bl : List Blk) (K : Kn), wr.ownsRow 0 62 2 (.slice ra z rc) z (rowCells rows) ∧ rows.length = z ∧ (∀ r ∈ rows, RowIn wr r) ∧ rows.map MRow.says = A ∧ (∀ r ∈ A, Fits nb k r) ∧ KnAt wr kb nb k bl K ∧ (if more = true then peelL nb k A K else K) = F ∧ w2.grownBy wr (some kb)

theorem peelK_plan (B K : Int) (la : Option Addr) (m lc : Nat) (w : World) (hB : I64 B) (hK : I64 K) (h : chkP B K ≠ 0) :
    Calls Tryd.prog 28 #[.agg #[.int .i64 B, .int .i64 K], .slice la m lc] w fun e w' => e = .returned (.tuple #[.slice none 0 0, .int .i64 (chkP B K)]) ∧ Below w.heap.size w w' := by
  have hBl : Below w.heap.size w (w.alloc (.cells #[.int .i64 B, .int .i64 K] 23)) := (Below.refl _ _).alloc (Nat.le_refl _) _
  obtain ⟨x0, x1⟩ := Box2.mk w (.int .i64 B) (.int .i64 K) 23
  have hC := cutCheck_any B K (w.alloc (.cells #[.int .i64 B, .int .i64 K] 23)) hB hK
  obtain ⟨q, hq⟩ : ∃ q, chkP B K = q := ⟨_, rfl⟩
  rw [hq] at hC h ⊢
  have h' : (q != 0) = true := by simpa using h
  clear hq
  go_enter Tryd.func28, Tryd.ntmps28
  go_wp2_with fail
  refine hC.mono ?_
  rintro e w1 ⟨rfl, hb⟩
  have hb1 := hBl.trans (hb.mono hBl.size)
  clear hC hb x0 x1 hBl
  go_wp2
  go_ret2
  exact ⟨rfl, hb1⟩

theorem peelK_many (B K : Int) (n k nb : Nat) (la : Option Addr) (m lc : Nat) (w : World) (g : Good B K n k nb) (hB : I64 B) (hK : I64 K) (hm : m ≤ maxLen) (h : 60 < m) :
    Calls Tryd.prog 28 #[.agg #[.int .i64 B, .int .i64 K], .slice la m lc] w fun e w' => e = .returned (.tuple #[.slice none 0 0, .int .i64 2]) ∧ Below w.heap.size w w' := by
  have hBl : Below w.heap.size w (w.alloc (.cells #[.int .i64 B, .int .i64 K] 23)) := (Below.refl _ _).alloc (Nat.le_refl _) _
  obtain ⟨x0, x1⟩ := Box2.mk w (.int .i64 B) (.int .i64 K) 23
  have hC := cutCheck_any B K (w.alloc (.cells #[.int .i64 B, .int .i64 K] 23)) hB hK
  rw [chkP_good g] at hC
  unfold maxLen at hm
  go_enter Tryd.func28, Tryd.ntmps28
  go_wp2_with fail
  refine hC.mono ?_
  rintro e w1 ⟨rfl, hb⟩
  have hb1 := hBl.trans (hb.mono hBl.size)
  clear hC hb x0 x1 hBl
  go_wp2
  go_ret2
  exact ⟨rfl, hb1⟩

set_option maxRecDepth 8000 in
set_option maxHeartbeats 4000000 in
theorem peelK_good (B K : Int) (n k nb m : Nat) (la : Option Addr) (lc : Nat) (l : List MSym) (ls : List LSym) (w : World) (g : Good B K n k nb) (hB : I64 B) (hK : I64 K) (hl : Lies w la (symCells l)) (hall : ∀ y ∈ l, SymIn w y) (hm : l.length = m) (h60 : m ≤ 60) (hls : l.map MSym.says = ls) (hL : Laid w) :
    Calls Tryd.prog 28 #[.agg #[.int .i64 B, .int .i64 K], .slice la m lc] w fun e w' =>
      ((chkAll B K ls ≠ 0 ∧ e = .returned (.tuple #[.slice none 0 0, .int .i64 (chkAll B K ls)])) ∨
        ∃ (kb : Nat) (bl : List Blk), e = .returned (.tuple #[.slice (some ⟨kb, 0, none⟩) nb nb, .int .i64 0]) ∧ Shut (chkAll B K ls = 0 ∧ KnAt w' kb nb k bl (peeRes nb k ls))) ∧ Below w.heap.size w w' := by
  have b1 := g.b1
  have b2 := g.b2
  have k1 := g.k1
  have k2 := g.k2
  have hBl : Below w.heap.size w (w.alloc (.cells #[.int .i64 B, .int .i64 K] 23)) := (Below.refl _ _).alloc (Nat.le_refl _) _
  have HPB : Shut ((w.alloc (.cells #[.int .i64 B, .int .i64 K] 23)).heap[w.heap.size]? = some (.cells #[.int .i64 B, .int .i64 K] 23 (0, 0))) := ⟨by rw [heap_alloc_eq, if_pos rfl]⟩
  obtain ⟨x0, x1⟩ := cells2 HPB.out
  have hC := cutCheck_any B K (w.alloc (.cells #[.int .i64 B, .int .i64 K] 23)) hB hK
  rw [chkP_good g] at hC
  have hBk : ∀ W, Calls Tryd.prog 20 #[.agg #[.int .i64 B, .int .i64 K]] W fun e w' => e = .returned (.int .i64 nb) ∧ Below W.heap.size W w' := fun W => by
    have h := cutBlocks_any B K W hB hK
    rw [g.eN] at h
    exact h
  have hRw : ∀ W, Below w.heap.size w W → Calls Tryd.prog 55 #[.agg #[.int .i64 B, .int .i64 K], .slice la m lc] W fun e w' =>
      ((chkAll B K ls ≠ 0 ∧ e = .returned (.tuple #[.slice none 0 0, .int .i64 (chkAll B K ls)])) ∨
        ∃ (ra : Option Addr) (rc : Nat) (rows : List MRow), e = .returned (.tuple #[.slice ra m rc, .int .i64 0]) ∧ Shut (chkAll B K ls = 0 ∧ w'.ownsRow 0 62 2 (.slice ra m rc) m (rowCells rows) ∧ rows.length = m ∧ (∀ r ∈ rows, RowIn w' r) ∧ rows.map MRow.says = ls.map (rowOf nb) ∧ ∀ r ∈ rows, Fits nb k r.says)) ∧ Below W.heap.size W w' := fun W hW =>
    rowsP_any B K n k nb m la lc l ls W g hB hK (hl.below hW (Nat.le_refl _)) (fun y hy => (hall y hy).below hW) hm h60 hls (hL.below hW)
  have hmk := run_make_row' (P := Tryd.prog) 48 36 (.slice none 0 0) 24 Tryd.underlying48 infoBlk rfl .i64 .i64 nb (by omega) (by omega)
  have h60n : ¬ 60 < m := by omega
  clear hl hall hm hls hL g
  go_enter Tryd.func28, Tryd.ntmps28
  go_wp2_with fail
  refine hC.mono ?_
  rintro e w1 ⟨rfl, hb⟩
  replace HPB := Shut.mk (blk_below HPB.out hb)
  have hb1 := hBl.trans (hb.mono hBl.size)
  clear hC hb x0 x1 hBl
  obtain ⟨x0, x1⟩ := cells2 HPB.out
  have hR1 := hRw w1 hb1
  clear hRw
  go_wp2_with fail
  refine hR1.mono ?_
  rintro e w2 ⟨hcase, hb2⟩
  replace HPB := Shut.mk (blk_below HPB.out hb2)
  replace hb1 := hb1.trans (hb2.mono hb1.size)
  clear hR1 hb2 x0 x1
  obtain ⟨x0, x1⟩ := cells2 HPB.out
  rcases hcase with ⟨hno, rfl⟩ | ⟨ra, rc, rows, rfl, HR⟩
  · obtain ⟨q, hq⟩ : ∃ q, chkAll B K ls = q := ⟨_, rfl⟩
    have HQ := Shut.mk hq
    rw [hq] at hno ⊢
    have h' : (q != 0) = true := by simpa using hno
    have HN := Shut.mk hno
    clear hq hno
    go_wp2
    go_ret2
    exact ⟨.inl ⟨by rw [HQ.out]; exact HN.out, by rw [HQ.out]; rfl⟩, hb1⟩
  · go_wp2_with fail
    refine (hBk _).mono ?_
    rintro e w3 ⟨rfl, hb3⟩
    clear hBk x0 x1
    have hb13 := hb1.trans (hb3.mono hb1.size)
    have bd : Below w3.heap.size w3 (w3.alloc (.cells (madeCells #[Value.slice none 0 0] nb) 36)) := (Below.refl _ _).alloc (Nat.le_refl _) _
    have h24 := hb3.trans (bd.mono hb3.size)
    have HS : Shut (PkSt (w3.alloc (.cells (madeCells #[Value.slice none 0 0] nb) 36)) (w3.alloc (.cells (madeCells #[Value.slice none 0 0] nb) 36)) w3.heap.size nb k ra m rc true (peeRes nb k ls)) := ⟨rows, _, _, _, own_below2 HR.out.2.1 h24, HR.out.2.2.1, fun r hr => (HR.out.2.2.2.1 r hr).below h24, HR.out.2.2.2.2.1, fun r hr => by
      rw [← HR.out.2.2.2.2.1] at hr
      obtain ⟨x, hx, rfl⟩ := List.mem_map.1 hr
      exact HR.out.2.2.2.2.2 x hx, KnAt.start w3 nb k, by rw [if_pos rfl]; rfl, grown_refl _ _⟩
    have hbw := hb13.trans (bd.mono hb13.size)
    have HCA : Shut (chkAll B K ls = 0) := ⟨HR.out.1⟩
    clear HPB HR hb3 h24 bd
    go_wp2
    obtain ⟨kb, hkb⟩ : ∃ kb, w3.heap.size = kb := ⟨_, rfl⟩
    obtain ⟨W4, hW4⟩ : ∃ W4, w3.alloc (.cells (madeCells #[Value.slice none 0 0] nb) 36) = W4 := ⟨_, rfl⟩
    rw [hW4] at HS hbw ⊢
    rw [hkb] at HS ⊢
    have HKB : Shut (w.heap.size ≤ kb) := ⟨by rw [← hkb]; exact hb13.size⟩
    clear hW4 hkb hb13 hmk hb1
    go_loopw [7, 10] (fun v b wr => ∃ (ra : Option Addr) (z rc : Nat) (more : Bool), z ≤ 60 ∧ v = .slice ra z rc ∧ b = .bool more ∧ Shut (PkSt W4 wr kb nb k ra z rc more (peeRes nb k ls))) (fun _ b wr => if isT b = true then unkW wr kb + 1 else 0)
    case atStart => exact ⟨ra, m, rc, true, h60, rfl, rfl, HS⟩
    case round =>
      clear HS
      obtain ⟨ra, z, rc, more, hz, rfl, rfl, HI⟩ := hrel
      obtain ⟨rows, A, bl, KK, h1, h2, h3, h4, h5, h6, h7, h8⟩ := HI.out
      cases more
      · have R : Shut (KnAt wr kb nb k bl (peeRes nb k ls)) := ⟨by rw [← h7, if_neg (by simp)]; exact h6⟩
        have hF : Below w.heap.size w wr := ⟨h8.os.trans hbw.os, h8.tape.trans hbw.tape, h8.output.trans hbw.output, Nat.le_trans hbw.size h8.size, fun i hi => (h8.block i (Nat.lt_of_lt_of_le hi hbw.size) fun e => by have := HKB.out; injection e; omega).trans (hbw.block i hi)⟩
        clear h1 h2 h3 h4 h5 h6 h7 h8 HI
        go_wp2
        go_ret2
        exact ⟨.inr ⟨kb, bl, rfl, ⟨HCA.out, R.out⟩⟩, hF⟩
      · have hRd := round_any nb k kb z ra rc rows A bl KK wr h1 h3 h4 h5 h2 hz k1 k2 b1 b2 h6
        have hun := h6.unk
        have hrk := round_keeps (rows := A) k1 h6.2.2.2.2.2.1
        have hps := peelL_step k1 A KK h6.2.2.2.2.2.1
        rw [if_pos rfl] at h7
        have hfl := fold_len (n := nb) (k := k) A ([], KK, false)
        have HI2 := Shut.mk (And.intro h1 (And.intro h2 (And.intro h3 (And.intro h4 (And.intro h5 (And.intro h6 (And.intro h7 (And.intro h8 (And.intro hrk (And.intro hps hfl))))))))))
        have HUN := Shut.mk hun
        clear h1 h2 h3 h4 h5 h6 h7 h8 HI hun hrk hps hfl
        go_wp2_with fail
        refine hRd.mono ?_
        rintro e w5 ⟨la5, lc5, z5, left5, bl5, rfl, H5⟩
        obtain ⟨mb, hmb⟩ : ∃ mb, (roundP nb k A KK).2.2 = mb := ⟨_, rfl⟩
        rw [hmb]
        have hz5 : z5 ≤ 60 := by
          have e1 : left5.length = (roundP nb k A KK).1.length := by rw [← H5.out.2.2.1]; simp
          have e2 : (roundP nb k A KK).1.length ≤ 0 + A.length := HI2.out.2.2.2.2.2.2.2.2.2.2
          have e3 : A.length = z := by rw [← HI2.out.2.2.2.1]; simpa using HI2.out.2.1
          have := H5.out.2.1
          omega
        have R : Shut (PkSt W4 w5 kb nb k la5 z5 lc5 mb (peeRes nb k ls)) := ⟨left5, _, bl5, _, H5.out.1, H5.out.2.1, fun r hr => HI2.out.2.2.2.2.2.1.rows b1 k1 (HI2.out.2.2.1 r (H5.out.2.2.2.1 r hr)) (HI2.out.2.2.2.2.1 _ (by rw [← HI2.out.2.2.2.1]; exact List.mem_map_of_mem (H5.out.2.2.2.1 r hr))) H5.out.2.2.2.2.2, H5.out.2.2.1, fun r hr => HI2.out.2.2.2.2.1 r (HI2.out.2.2.2.2.2.2.2.2.1.2.2.2.2.2 r hr), H5.out.2.2.2.2.1, by rw [← hmb, ← HI2.out.2.2.2.2.2.2.1, HI2.out.2.2.2.2.2.2.2.2.2.1], grown_trans HI2.out.2.2.2.2.2.2.2.1 H5.out.2.2.2.2.2⟩
        have HM : Shut (mb = true → unkW w5 kb < unkW wr kb) := ⟨fun e => by
          rw [H5.out.2.2.2.2.1.unk, HUN.out]
          exact HI2.out.2.2.2.2.2.2.2.2.1.2.2.1 (by rw [hmb]; exact e)⟩
        clear hRd H5 hmb HI2 HUN
        go_wp2
        go_roundw
        case rel => exact ⟨la5, z5, lc5, mb, hz5, rfl, rfl, R⟩
        case measure =>
          simp only [isT, if_true]
          cases mb
          · simp
          · have := HM.out rfl
            simp
            omega

end Go.Proofs.YtkiejflgphjfjacDoor

/-
  slices.Reverse at symbols: its contract.
-/
namespace Go.Proofs.YtkiejflgphjfjacDoor
open Go.RowKit
set_option linter.unusedVariables false
set_option linter.unusedSimpArgs false

/-- the first k and the last k have changed places -/
def revF {α : Type} (n : Nat) (f : Nat → α) (k i : Nat) : α := if i < n ∧ (i < k ∨ n < i + 1 + k) then f (n - 1 - i) else f i

theorem revF_step {α : Type} {n k : Nat} {f : Nat → α} (h : k + 1 + k < n) (i : Nat) :
    (if i = n - 1 - k then f k else if i = k then f (n - 1 - k) else revF n f k i) = revF n f (k + 1) i := by
  unfold revF
  by_cases h1 : i = n - 1 - k
  · subst h1
    rw [if_pos rfl, if_pos (by omega)]
    congr 1
    omega
  · rw [if_neg h1]
    by_cases h2 : i = k
    · subst h2
      rw [if_pos rfl, if_pos (by omega)]
    · rw [if_neg h2]
      by_cases h3 : i < n ∧ (i < k ∨ n < i + 1 + k)
      · rw [if_pos h3, if_pos (by omega)]
      · rw [if_neg h3, if_neg (by omega)]

theorem revF_end {α : Type} {n k : Nat} {f : Nat → α} (h : ¬ k + 1 + k < n) {i : Nat} (h1 : i < n) : revF n f k i = f (n - 1 - i) := by
  unfold revF
  by_cases h2 : i < k ∨ n < i + 1 + k
  · rw [if_pos ⟨h1, h2⟩]
  · rw [if_neg (by omega)]
    congr 1
    omega

theorem cellSet {w : World} {g o o' : Nat} {v u : Value} (h : w.cell? ⟨g, o', none⟩ = some u) : (w.setCell ⟨g, o, none⟩ v).cell? ⟨g, o', none⟩ = some (if o' = o then v else u) := by
  by_cases e : o' = o
  · subst e
    rw [if_pos rfl]
    exact World.cell?_setCell_same _ _ _ h
  · rw [if_neg e, World.cell?_setCell_other _ _ _ _ (by intro h; injection h; omega)]
    exact h

/-- the symbols stand so, in a block of cells that may be written -/
def SymsAt (w : World) (g n : Nat) (f : Nat → MSym) : Prop := (∀ i, i < n → w.cell? ⟨g, i * 2, none⟩ = some (.int .i64 (f i).id) ∧ w.cell? ⟨g, i * 2 + 1, none⟩ = some (f i).dv) ∧ ∃ cur t, w.heap[g]? = some (.cells cur t (0, 0))

theorem SymsAt.swap {w : World} {g n k : Nat} {f : Nat → MSym} (h : SymsAt w g n (revF n f k)) (hk : k + 1 + k < n) :
    SymsAt ((((w.setCell ⟨g, k * 2, none⟩ (.int .i64 (f (n - 1 - k)).id)).setCell ⟨g, k * 2 + 1, none⟩ (f (n - 1 - k)).dv).setCell ⟨g, (n - 1 - k) * 2, none⟩ (.int .i64 (f k).id)).setCell ⟨g, (n - 1 - k) * 2 + 1, none⟩ (f k).dv) g n (revF n f (k + 1)) := by
  obtain ⟨h, cur, t, hb⟩ := h
  refine ⟨fun i hi => ?_, _, _, heap_set (heap_set (heap_set (heap_set hb)))⟩
  obtain ⟨c0, c1⟩ := h i hi
  have d0 := cellSet (o := (n - 1 - k) * 2 + 1) (v := (f k).dv) (cellSet (o := (n - 1 - k) * 2) (v := .int .i64 (f k).id) (cellSet (o := k * 2 + 1) (v := (f (n - 1 - k)).dv) (cellSet (o := k * 2) (v := .int .i64 (f (n - 1 - k)).id) c0)))
  have d1 := cellSet (o := (n - 1 - k) * 2 + 1) (v := (f k).dv) (cellSet (o := (n - 1 - k) * 2) (v := .int .i64 (f k).id) (cellSet (o := k * 2 + 1) (v := (f (n - 1 - k)).dv) (cellSet (o := k * 2) (v := .int .i64 (f (n - 1 - k)).id) c1)))
  rw [d0, d1, ← revF_step hk i]
  have a1 : ¬ i * 2 = (n - 1 - k) * 2 + 1 := by omega
  have a2 : ¬ i * 2 = k * 2 + 1 := by omega
  have a3 : ¬ i * 2 + 1 = (n - 1 - k) * 2 := by omega
  have a4 : ¬ i * 2 + 1 = k * 2 := by omega
  have b1 : (i * 2 = (n - 1 - k) * 2) = (i = n - 1 - k) := propext ⟨fun _ => by omega, fun _ => by omega⟩
  have b2 : (i * 2 = k * 2) = (i = k) := propext ⟨fun _ => by omega, fun _ => by omega⟩
  have b3 : (i * 2 + 1 = (n - 1 - k) * 2 + 1) = (i = n - 1 - k) := propext ⟨fun _ => by omega, fun _ => by omega⟩
  have b4 : (i * 2 + 1 = k * 2 + 1) = (i = k) := propext ⟨fun _ => by omega, fun _ => by omega⟩
  simp only [if_neg a1, if_neg a2, if_neg a3, if_neg a4, b1, b2, b3, b4]
  by_cases e1 : i = n - 1 - k
  · simp only [if_pos e1]
    exact ⟨trivial, trivial⟩
  · simp only [if_neg e1]
    by_cases e2 : i = k
    · simp only [if_pos e2]
      exact ⟨trivial, trivial⟩
    · simp only [if_neg e2]
      exact ⟨trivial, trivial⟩

theorem growD {a b : World} {row : Option Nat} (h : a.grownBy b row) : a.grownBy b.drew row := ⟨h.os, h.tape, h.output, h.size, h.block⟩

theorem grown4 {w0 w : World} {g : Nat} (h : w0.grownBy w (some g)) (o1 o2 o3 o4 : Nat) (v1 v2 v3 v4 : Value) : w0.grownBy ((((w.setCell ⟨g, o1, none⟩ v1).setCell ⟨g, o2, none⟩ v2).setCell ⟨g, o3, none⟩ v3).setCell ⟨g, o4, none⟩ v4) (some g) :=
  grown_trans (grown_trans (grown_trans (grown_trans h (grown_setCell _ g _ _)) (grown_setCell _ g _ _)) (grown_setCell _ g _ _)) (grown_setCell _ g _ _)

set_option maxHeartbeats 1000000 in
theorem reverseS_any (g n cap : Nat) (f : Nat → MSym) (w : World) (hn : n ≤ cap) (hc : n ≤ 60) (hr : SymsAt w g n f) :
    Calls Tryd.prog 18 #[.slice (some ⟨g, 0, none⟩) n cap] w fun e w' => e = .returned (.tuple #[]) ∧ SymsAt w' g n (fun i => f (n - 1 - i)) ∧ w.grownBy w' (some g) := by
  have H0 : Shut (SymsAt w g n (revF n f 0) ∧ w.grownBy w (some g)) := ⟨⟨fun i hi => by rw [show revF n f 0 i = f i by unfold revF; rw [if_neg (by omega)]]; exact hr.1 i hi, hr.2⟩, grown_refl _ _⟩
  clear hr
  go_enter Tryd.func18, Tryd.ntmps18
  go_wp2
  go_loopw [2, 3] (fun i j wr => ∃ k : Nat, k ≤ n ∧ i = .int .i64 k ∧ j = .int .i64 ((n : Int) - 1 - k) ∧ Shut (SymsAt wr g n (revF n f k) ∧ w.grownBy wr (some g))) (fun i _ _ => n - (intOf i).toNat)
  case atStart => exact ⟨0, Nat.zero_le _, rfl, by simp, H0⟩
  case round =>
    clear H0
    obtain ⟨k, hk, rfl, rfl, HI⟩ := hrel
    by_cases hlt : (k : Int) < (n : Int) - 1 - k
    · have hkn : k < n := by omega
      have hj : ((n : Int) - 1 - k).toNat = n - 1 - k := by omega
      have hj0 : (0 : Int) ≤ (n : Int) - 1 - k := by omega
      have hjn : (n : Int) - 1 - k < n := by omega
      obtain ⟨h1, h2⟩ := HI.out.1.1 k (by omega)
      obtain ⟨h3, h4⟩ := HI.out.1.1 (n - 1 - k) (by omega)
      rw [show revF n f k k = f k by unfold revF; rw [if_neg (by omega)]] at h1 h2
      rw [show revF n f k (n - 1 - k) = f (n - 1 - k) by unfold revF; rw [if_neg (by omega)]] at h3 h4
      obtain ⟨cur, t, hb⟩ := HI.out.1.2
      have f1 := frozen_blk hb (k * 2)
      have f2 := frozen_blk hb (k * 2 + 1)
      have f3 := frozen_blk hb ((n - 1 - k) * 2)
      have f4 := frozen_blk hb ((n - 1 - k) * 2 + 1)
      have R := Shut.mk (And.intro (HI.out.1.swap (by omega)) (grown4 HI.out.2 (k * 2) (k * 2 + 1) ((n - 1 - k) * 2) ((n - 1 - k) * 2 + 1) (.int .i64 (f (n - 1 - k)).id) (f (n - 1 - k)).dv (.int .i64 (f k).id) (f k).dv))
      clear HI hb
      simp only [MSym.dv] at h2 h4 R
      generalize (f k).id = i1 at *
      generalize (f k).a = a1 at *
      generalize (f k).d.length = n1 at *
      generalize (f k).c = c1 at *
      generalize (f (n - 1 - k)).id = i2 at *
      generalize (f (n - 1 - k)).a = a2 at *
      generalize (f (n - 1 - k)).d.length = n2 at *
      generalize (f (n - 1 - k)).c = c2 at *
      go_wp2
      go_region
      all_goals go_wp2
      all_goals go_roundw
      case rel => exact ⟨k + 1, by omega, by go_num, by go_num, ⟨R.out.1, growD R.out.2⟩⟩
      case measure => simp [intOf]; omega
    · have R : Shut (SymsAt wr g n (fun i => f (n - 1 - i)) ∧ w.grownBy wr (some g)) := ⟨⟨fun i hi => by have := HI.out.1.1 i hi; rw [revF_end (by omega) hi] at this; exact this, HI.out.1.2⟩, HI.out.2⟩
      clear HI
      go_wp2
      go_end0
      exact ⟨rfl, R.out⟩

end Go.Proofs.YtkiejflgphjfjacDoor

/-
  What bottlepostref.Peeled wants of package slices: Clone, IndexFunc and DeleteFunc at numbers; its closure.
-/
namespace Go.Proofs.YtkiejflgphjfjacDoor
open Go.RowKit
set_option linter.unusedVariables false
set_option linter.unusedSimpArgs false

theorem nats_len (l : List Nat) : (nats l).length = l.length := by simp [nats]

/-- the closure: is it known? -/
theorem peeled1_any (vb kb nb k x : Nat) (bl : List Blk) (K : Kn) (w : World) (hv : w.cell? ⟨vb, 0, none⟩ = some (.slice (some ⟨kb, 0, none⟩) nb nb)) (hK : KnAt w kb nb k bl K) (hx : x < nb) (hn : nb ≤ 24) :
    Calls Tryd.prog 59 #[.int .i64 x, .pointer (some ⟨vb, 0, none⟩)] w fun e w' => e = .returned (.bool (knw K x)) ∧ w = w' := by
  have hxb : x < bl.length := by rw [hK.2.1]; exact hx
  have c1 := hK.cell hxb
  have hkn : knw K x = !bl[x].l.isEmpty := by unfold knw; rw [hK.l hxb]
  have hnl := hK.2.2.2.1 bl[x] (List.getElem_mem hxb)
  have hin := hK.2.2.1 bl[x] (List.getElem_mem hxb)
  rw [hkn]
  generalize bl[x]'hxb = X at *
  obtain ⟨Xa, Xc, Xl⟩ := X
  simp only at *
  have hx1 : (0 : Int) ≤ (x : Int) := by omega
  have hx2 : (x : Int) < (nb : Int) := by omega
  clear hK hkn
  by_cases hX : Xl = []
  · have e0 := hnl hX
    injection e0 with e1 e2 e3
    subst e1 e2 e3
    simp only [List.length_nil] at c1
    have hne : ∀ W : World, (binOp .neq 36 (.slice none 0 0) (.slice none 0 0)).run Tryd.prog W = .ok (.bool false) W := fun W => run_neq_slice_nil_any W 36 5 none 0 0 0 0 Tryd.underlying36
    clear hX hnl hin
    go_enter Tryd.func59, Tryd.ntmps59
    go_wp2
    go_ret
    exact ⟨rfl, rfl⟩
  · obtain ⟨xb, xo, hxa⟩ := hin.1.some (k := 0) (by simpa [bs] using List.length_pos_iff.2 hX)
    subst hxa
    have hE : (!Xl.isEmpty) = true := by simp [hX]
    rw [hE]
    have hne : ∀ W : World, (binOp .neq 36 (.slice (some ⟨xb, xo, none⟩) Xl.length Xc) (.slice none 0 0)).run Tryd.prog W = .ok (.bool true) W := fun W => run_neq_slice_nil_any W 36 5 (some ⟨xb, xo, none⟩) Xl.length Xc 0 0 Tryd.underlying36
    clear hX hnl hin hE
    go_enter Tryd.func59, Tryd.ntmps59
    go_wp2
    go_ret
    exact ⟨rfl, rfl⟩

theorem entersPeel1 : ∀ args w, (callFunc 59 args).run Tryd.prog w = .ok (.enter 59 args) w := enters_of Tryd.func59 (by kernel_rfl) rfl

set_option maxRecDepth 8000 in
theorem cloneI_own (b o cap z : Nat) (N : List Nat) (w : World) (hz : N.length = z) (h0 : 0 < z) (hn : z ≤ 24) (ha : Lies w (some ⟨b, o, none⟩) (is (nats N))) :
    Calls Tryd.prog 58 #[.slice (some ⟨b, o, none⟩) z cap] w fun e w' => ∃ (g q : Nat), e = .returned (.slice (some ⟨g, 0, none⟩) z q) ∧ Shut (z ≤ q ∧ q ≤ maxLen ∧ w.heap.size ≤ g ∧ (∃ cur, w'.heap[g]? = some (.cells cur 3 (0, 0))) ∧ Lies w' (some ⟨g, 0, none⟩) (is (nats N)) ∧ Below w.heap.size w w') := by
  obtain ⟨i0, hi, hz0, hz1, hz2⟩ := info_parts infoI
  have hne : ∀ W : World, (binOp .eql 32 (.slice (some ⟨b, o, none⟩) z cap) (.slice none 0 0)).run Tryd.prog W = .ok (.bool false) W := fun W => Lib.run_eql_slice_nil W 32 3 (some ⟨b, o, none⟩) z cap 0 0 Tryd.underlying32
  go_enter Tryd.func58, Tryd.ntmps58
  have hown : (w.alloc (.cells #[] 3)).ownsRow w.heap.size 3 1 (.slice (some ⟨w.heap.size, 0, none⟩) 0 0) 0 [] :=
    ⟨rfl, .inr ⟨w.heap.size, 0, #[], rfl, Nat.le_refl _, by rw [heap_alloc_eq, if_pos rfl], Nat.le_refl _, by unfold maxLen; omega, rfl, rfl⟩⟩
  have hla := ha.alloc (.cells #[] 3)
  have HZ := Shut.mk hz
  clear ha hz
  go_wp2_with (first | (at_builtin; refine wpList_append_own _ rfl _ _ 32 rfl w.heap.size 3 i0 (.int .i64 0) 1 8 Tryd.underlying32 hi hz0 hz1 hz2 rfl (by decide) _ _ _ rfl hown ⟨b, o, none⟩ z cap (is (nats N)) rfl ?c0 ?c1 ?c2 ?c3 ?c4 ?c5 ?_) | go_in)
  case c0 => simp [is, nats, HZ.out]
  case c1 =>
    intro j u hj
    have := hla.at hj
    simpa [Addr.add_lit] using this
  case c2 =>
    intro v hv
    obtain ⟨x, _, rfl⟩ := List.mem_map.1 hv
    rfl
  case c3 => unfold maxLen; omega
  case c4 => omega
  case c5 => simp
  intro v' w' hown' hgrow _
  have hb : Below w.heap.size w w' := ((Below.refl _ _).alloc (Nat.le_refl _) _).grown hgrow (by simp) fun g hg => (hown.lt g hg).1
  clear hgrow hown hla
  rcases hown'.2 with ⟨_, h⟩ | ⟨g, q, cur, e1, hbg, hg, hnc, hcm, hcs, htake⟩
  · omega
  · subst e1
    have hl : Lies w' (some ⟨g, 0, none⟩) (is (nats N)) := by
      obtain ⟨a', c', hv', h, _⟩ := own_lies hown'
      cases hv'
      exact h
    have R : Shut (z ≤ q ∧ q ≤ maxLen ∧ w.heap.size ≤ g ∧ (∃ cur, w'.heap[g]? = some (.cells cur 3 (0, 0))) ∧ Lies w' (some ⟨g, 0, none⟩) (is (nats N)) ∧ Below w.heap.size w w') := ⟨hnc, hcm, hbg, ⟨cur, hg⟩, hl, hb⟩
    clear hown' hl hb hg hcs htake hnc hcm hbg
    go_wp2
    go_ret
    exact ⟨g, q, rfl, R⟩

/-- where the first one is that is asked for; none: -1 -/
def idxN (D : Nat → Bool) (N : List Nat) : Int := if N.findIdx D < N.length then (N.findIdx D : Nat) else -1

theorem idxN_at {D : Nat → Bool} {N : List Nat} {q : Nat} (hq : q < N.length) (ht : D N[q] = true) (hn : ∀ j (hj : j < q), D (N[j]'(by omega)) = false) : idxN D N = q := by
  have e : N.findIdx D = q := by
    rw [List.findIdx_eq hq]
    exact ⟨ht, fun j hj => by simpa using hn j hj⟩
  rw [idxN, e, if_pos hq]

theorem idxN_none {D : Nat → Bool} {N : List Nat} (hn : ∀ j (hj : j < N.length), D N[j] = false) : idxN D N = -1 := by
  rw [idxN, if_neg]
  intro hl
  have := List.findIdx_getElem (w := hl)
  rw [hn _ hl] at this
  simp at this

theorem indexKn (vb g z cap : Nat) (N : List Nat) (D : Nat → Bool) (w : World) (hz : N.length = z) (hn : z ≤ 24) (hl : Lies w (some ⟨g, 0, none⟩) (is (nats N))) (hcl : ∀ x ∈ N, Calls Tryd.prog 59 #[.int .i64 x, .pointer (some ⟨vb, 0, none⟩)] w fun e w' => e = .returned (.bool (D x)) ∧ w = w') :
    Calls Tryd.prog 81 #[.slice (some ⟨g, 0, none⟩) z cap, .func (.func 59) #[] #[.pointer (some ⟨vb, 0, none⟩)]] w fun e w' => e = .returned (.int .i64 (idxN D N)) ∧ w = w' := by
  have eg := entersPeel1
  have HX := Shut.mk (And.intro hz (And.intro hl hcl))
  clear hz hl hcl
  go_enter Tryd.func81, Tryd.ntmps81
  go_wp2
  go_loopw [8] (fun i wr => ∃ q : Nat, q ≤ z ∧ i = .int .i64 q ∧ wr = w ∧ Shut (∀ j (hj : j < N.length), j < q → D N[j] = false)) (fun i _ => z - (intOf i).toNat)
  case atStart => exact ⟨0, Nat.zero_le _, rfl, rfl, ⟨fun j _ hj => by omega⟩⟩
  case round =>
    obtain ⟨q, hq, rfl, rfl, HN⟩ := hrel
    by_cases hlt : q < z
    · have hqN : q < N.length := by rw [HX.out.1]; exact hlt
      have c0 := HX.out.2.1.at (k := q) (u := .int .i64 (N[q] : Int)) (by simp [is, nats, hqN])
      simp only [Nat.zero_add] at c0
      have hA := HX.out.2.2 N[q] (List.getElem_mem hqN)
      have HT : Shut (D N[q] = true → idxN D N = q) := ⟨fun h => idxN_at hqN h fun j hj => HN.out j (by omega) hj⟩
      have HF : Shut (D N[q] = false → ∀ j (hj : j < N.length), j < q + 1 → D N[j] = false) := ⟨fun h j hj hjq => by
        by_cases e : j = q
        · subst e; exact h
        · exact HN.out j hj (by omega)⟩
      generalize D N[q] = b at *
      generalize N[q]'hqN = x at *
      clear HN
      go_wp2_with fail
      refine hA.mono ?_
      rintro e w2 ⟨rfl, rfl⟩
      clear hA c0
      cases b
      · have HN2 := Shut.mk (HF.out rfl)
        clear HF HT
        go_wp2
        go_roundw
        case rel => exact ⟨q + 1, by omega, by go_num, by first | rfl | trivial, HN2⟩
        case measure => simp [intOf]; omega
      · have HR := Shut.mk (HT.out rfl)
        clear HF HT
        go_wp2
        go_ret
        exact ⟨ret_int HR.out.symm, rfl⟩
    · have HR : Shut (idxN D N = -1) := ⟨idxN_none fun j hj => HN.out j hj (by have := HX.out.1; omega)⟩
      clear HN
      go_wp2
      go_ret
      exact ⟨ret_int HR.out.symm, rfl⟩

end Go.Proofs.YtkiejflgphjfjacDoor

/-
  slices.DeleteFunc at numbers, with Peeled's closure.
-/
namespace Go.Proofs.YtkiejflgphjfjacDoor
open Go.RowKit
set_option linter.unusedVariables false
set_option linter.unusedSimpArgs false

/-- numbers stand so, in a block of numbers -/
def IntsAt (w : World) (g z : Nat) (f : Nat → Nat) : Prop := (∃ cur, w.heap[g]? = some (.cells cur 3 (0, 0))) ∧ ∀ t, t < z → w.cell? ⟨g, t, none⟩ = some (.int .i64 (f t : Int))

theorem IntsAt.set {w : World} {g z i v : Nat} {f : Nat → Nat} (h : IntsAt w g z f) : IntsAt (w.setCell ⟨g, i, none⟩ (.int .i64 (v : Int))) g z (fun t => if t = i then v else f t) := by
  obtain ⟨⟨cur, hc⟩, h2⟩ := h
  refine ⟨⟨_, heap_set hc⟩, fun t ht => ?_⟩
  rw [cellSet (h2 t ht)]
  by_cases e : t = i
  · simp [e]
  · simp [e]

theorem grown_setCellsI (g : Nat) : ∀ (vs : List Value) (k : Nat) (w : World), w.grownBy (w.setCells g k vs) (some g)
  | [], k, w => grown_refl _ _
  | v :: vs, k, w => grown_trans (grown_setCell w g k v) (grown_setCellsI g vs (k + 1) _)

theorem cell_setCells_low {g t : Nat} : ∀ (vs : List Value) (k : Nat) (w : World), t < k → (w.setCells g k vs).cell? ⟨g, t, none⟩ = w.cell? ⟨g, t, none⟩
  | [], k, w, _ => rfl
  | v :: vs, k, w, h => (cell_setCells_low vs (k + 1) _ (by omega)).trans (World.cell?_setCell_other _ _ _ _ (by intro e; injection e; omega))

theorem typed_setCells {g : Nat} : ∀ (vs : List Value) (k : Nat) (w : World), (∃ cur, w.heap[g]? = some (.cells cur 3 (0, 0))) → ∃ cur, (w.setCells g k vs).heap[g]? = some (.cells cur 3 (0, 0))
  | [], k, w, h => h
  | v :: vs, k, w, h => typed_setCells vs (k + 1) _ (by obtain ⟨cur, hc⟩ := h; exact ⟨_, heap_set hc⟩)

def keptN (D : Nat → Bool) (N : List Nat) (j : Nat) : List Nat := (N.take j).filter fun x => !D x

theorem kept_succ {D : Nat → Bool} {N : List Nat} {j : Nat} (hj : j < N.length) : keptN D N (j + 1) = if D N[j] = true then keptN D N j else keptN D N j ++ [N[j]] := by
  unfold keptN
  rw [List.take_add_one, List.getElem?_eq_getElem hj, Option.toList_some, List.filter_append]
  by_cases h : D N[j] = true
  · rw [if_pos h]; simp [h]
  · rw [if_neg h]; simp [h]

theorem kept_len (D : Nat → Bool) (N : List Nat) (j : Nat) : (keptN D N j).length ≤ j := by
  have := List.length_filter_le (fun x => !D x) (N.take j)
  have h2 : (N.take j).length ≤ j := by rw [List.length_take]; omega
  unfold keptN
  omega

/-- the state of DeleteFunc's loop -/
def DelSt (w wr : World) (g z : Nat) (N : List Nat) (D : Nat → Bool) (i j : Nat) : Prop :=
  ∃ f, IntsAt wr g z f ∧ (keptN D N j).length = i ∧ (∀ t, t < i → f t = (keptN D N j).getD t 0) ∧ (∀ t, j ≤ t → t < z → f t = N.getD t 0) ∧ i < j ∧ w.grownBy wr (some g)

theorem DelSt.del {w wr : World} {g z i j : Nat} {N : List Nat} {D : Nat → Bool} (h : DelSt w wr g z N D i j) (hz : N.length = z) (hj : j < N.length) (hd : D N[j] = true) : DelSt w wr g z N D i (j + 1) := by
  obtain ⟨f, h1, h2, h3, h4, h5, h6⟩ := h
  have e := kept_succ (D := D) hj
  rw [if_pos hd] at e
  exact ⟨f, h1, by rw [e]; exact h2, by rw [e]; exact h3, fun t ht htz => h4 t (by omega) htz, by omega, h6⟩

theorem DelSt.keep {w wr : World} {g z i j : Nat} {N : List Nat} {D : Nat → Bool} (h : DelSt w wr g z N D i j) (hz : N.length = z) (hj : j < N.length) (hd : D N[j] = false) : DelSt w (wr.setCell ⟨g, i, none⟩ (.int .i64 (N[j] : Int))) g z N D (i + 1) (j + 1) := by
  obtain ⟨f, h1, h2, h3, h4, h5, h6⟩ := h
  have e := kept_succ (D := D) hj
  rw [if_neg (by simp [hd])] at e
  refine ⟨_, h1.set, by rw [e, List.length_append, h2]; rfl, fun t ht => ?_, fun t ht htz => ?_, by omega, grown_trans h6 (grown_setCell wr g i _)⟩
  · rw [e]
    by_cases et : t = i
    · subst et
      simp only [if_true, List.getD_eq_getElem?_getD]
      rw [List.getElem?_append_right (by omega), h2]
      simp
    · simp only [if_neg et]
      rw [h3 t (by omega)]
      simp only [List.getD_eq_getElem?_getD]
      rw [List.getElem?_append_left (by omega)]
  · have et : t ≠ i := by omega
    simp only [if_neg et]
    exact h4 t (by omega) htz

theorem kept_start {D : Nat → Bool} {N : List Nat} {i : Nat} (hi : i < N.length) (ht : D N[i] = true) (hn : ∀ j (hj : j < i), D (N[j]'(by omega)) = false) : keptN D N (i + 1) = N.take i := by
  rw [kept_succ hi, if_pos ht]
  unfold keptN
  refine List.filter_eq_self.2 fun x hx => ?_
  obtain ⟨j, hj, rfl⟩ := List.getElem_of_mem hx
  rw [List.getElem_take]
  have : j < i := by rw [List.length_take] at hj; omega
  simp [hn j this]

set_option maxRecDepth 8000 in
set_option maxHeartbeats 2000000 in
theorem deleteKn (vb g z cap : Nat) (N : List Nat) (D : Nat → Bool) (w : World) (hz : N.length = z) (hn : z ≤ 24) (hcap : z ≤ cap) (hcm : cap ≤ maxLen) (hg : ∃ cur, w.heap[g]? = some (.cells cur 3 (0, 0))) (hl : Lies w (some ⟨g, 0, none⟩) (is (nats N)))
    (hcl : ∀ W, w.grownBy W (some g) → ∀ x ∈ N, Calls Tryd.prog 59 #[.int .i64 x, .pointer (some ⟨vb, 0, none⟩)] W fun e w' => e = .returned (.bool (D x)) ∧ W = w') :
    Calls Tryd.prog 57 #[.slice (some ⟨g, 0, none⟩) z cap, .func (.func 59) #[] #[.pointer (some ⟨vb, 0, none⟩)]] w fun e w' => ∃ r : Nat, e = .returned (.slice (some ⟨g, 0, none⟩) r cap) ∧ Shut ((N.filter fun x => !D x).length = r ∧ Lies w' (some ⟨g, 0, none⟩) (is (nats (N.filter fun x => !D x))) ∧ w.grownBy w' (some g) ∧ ∃ cur, w'.heap[g]? = some (.cells cur 3 (0, 0))) := by
  have eg := entersPeel1
  obtain ⟨ti, hti, hz0, hz1, hz2⟩ := info_parts infoI
  unfold maxLen at hcm
  have hI := indexKn vb g z cap N D w hz hn hl (hcl w (grown_refl _ _))
  by_cases hsome : N.findIdx D < N.length
  · obtain ⟨i0, hi0⟩ : ∃ i0, N.findIdx D = i0 := ⟨_, rfl⟩
    rw [hi0] at hsome
    have hit : D N[i0] = true := by
      have := List.findIdx_getElem (p := D) (w := (by rw [hi0]; exact hsome : N.findIdx D < N.length))
      simpa [hi0] using this
    have hin : ∀ j (hj : j < i0), D (N[j]'(by omega)) = false := fun j hj => by
      have := List.not_of_lt_findIdx (p := D) (xs := N) (i := j) (by omega)
      simpa using this
    have e1 : idxN D N = i0 := idxN_at hsome hit hin
    rw [e1] at hI
    have hi0z : i0 < z := by omega
    have hS0 : DelSt w w g z N D i0 (i0 + 1) := by
      refine ⟨fun t => N.getD t 0, ⟨hg, fun t ht => ?_⟩, ?_, fun t ht => ?_, fun t _ _ => rfl, by omega, grown_refl _ _⟩
      · have htN : t < N.length := by omega
        have := hl.at (k := t) (u := .int .i64 (N[t] : Int)) (by simp [is, nats, htN])
        rw [Nat.zero_add] at this
        rw [this]
        simp [List.getD_eq_getElem?_getD, htN]
      · rw [kept_start hsome hit hin, List.length_take]; omega
      · rw [kept_start hsome hit hin]
        simp only [List.getD_eq_getElem?_getD]
        rw [List.getElem?_take, if_pos ht]
    have HS0 := Shut.mk hS0
    have HX := Shut.mk (And.intro hz hcl)
    have hz0' : ∀ W, (zeroValue 3).run Tryd.prog W = .ok (.int .i64 0) W := fun W => by simp [zeroValue, typeInfo, hti, hz0]
    have hneg : ((i0 : Int) == -1) = false := by simp
    clear hS0 hit hin e1 hl hg hz hcl hsome hi0
    go_enter Tryd.func57, Tryd.ntmps57
    go_wp2_with fail
    refine hI.mono ?_
    rintro e w1 ⟨rfl, rfl⟩
    clear hI
    go_wp2
    go_loopw [5, 6] (fun a b wr => ∃ i j : Nat, j ≤ z ∧ i < j ∧ a = .int .i64 i ∧ b = .int .i64 j ∧ Shut (DelSt w wr g z N D i j)) (fun _ b _ => z - (intOf b).toNat)
    case atStart => exact ⟨i0, i0 + 1, by omega, by omega, rfl, by go_num, HS0⟩
    case round =>
      clear HS0 hneg
      obtain ⟨i, j, hjz, hij, rfl, rfl, HI⟩ := hrel
      by_cases hlt : j < z
      · have hjN : j < N.length := by rw [HX.out.1]; exact hlt
        obtain ⟨f, hf1, hf2, hf3, hf4, hf5, hf6⟩ := HI.out
        have c0 := hf1.2 j hlt
        rw [hf4 j (Nat.le_refl _) hlt] at c0
        have eN : N.getD j 0 = N[j] := by simp [List.getD_eq_getElem?_getD, hjN]
        rw [eN] at c0
        have hA := HX.out.2 wr hf6 N[j] (List.getElem_mem hjN)
        have HD : Shut ((D N[j] = true → DelSt w wr g z N D i (j + 1)) ∧ (D N[j] = false → DelSt w (wr.setCell ⟨g, i, none⟩ (.int .i64 (N[j] : Int))) g z N D (i + 1) (j + 1))) := ⟨fun h => HI.out.del HX.out.1 hjN h, fun h => HI.out.keep HX.out.1 hjN h⟩
        have ci := hf1.2 i (by omega)
        have fi : wr.frozen? ⟨g, i, none⟩ = false := by obtain ⟨cur, hc⟩ := hf1.1; exact frozen_blk hc i
        generalize f i = fi' at ci
        generalize D N[j] = b at *
        generalize N[j]'hjN = x at *
        clear hf1 hf2 hf3 hf4 hf5 hf6 eN HI
        have hi1 : (i : Int) < (z : Int) := by omega
        go_wp2_with fail
        refine hA.mono ?_
        rintro e w2 ⟨rfl, rfl⟩
        clear hA
        cases b
        · have R := Shut.mk (HD.out.2 rfl)
          clear HD
          go_wp2
          go_roundw
          case rel => exact ⟨i + 1, j + 1, by omega, by omega, by go_num, by go_num, R⟩
          case measure => simp [intOf]; omega
        · have R := Shut.mk (HD.out.1 rfl)
          clear HD
          go_wp2
          go_roundw
          case rel => exact ⟨i, j + 1, by omega, by omega, rfl, by go_num, R⟩
          case measure => simp [intOf]; omega
      · obtain rfl : j = z := by omega
        obtain ⟨f, hf1, hf2, hf3, hf4, hf5, hf6⟩ := HI.out
        have ek : keptN D N j = N.filter fun x => !D x := by unfold keptN; rw [List.take_of_length_le (by rw [HX.out.1]; exact Nat.le_refl _)]
        have hcl := fun ty => Lib.run_clear_slice (P := Tryd.prog) wr 32 3 ty (.int .i64 0) Tryd.underlying32 hz0' rfl rfl g i (j - i) (cap - i) (by omega) (fun t ht => by rw [hf1.2 (i + t) (by omega)]; rfl) (fun t ht => by obtain ⟨cur, hc⟩ := hf1.1; exact frozen_blk hc _)
        have R : Shut ((N.filter fun x => !D x).length = i ∧ Lies (wr.setCells g i (List.replicate (j - i) (.int .i64 0))) (some ⟨g, 0, none⟩) (is (nats (N.filter fun x => !D x))) ∧ w.grownBy (wr.setCells g i (List.replicate (j - i) (.int .i64 0))) (some g) ∧ ∃ cur, (wr.setCells g i (List.replicate (j - i) (.int .i64 0))).heap[g]? = some (.cells cur 3 (0, 0))) := ⟨by rw [← ek]; exact hf2, by
          rw [← ek]
          refine Lies.mk fun t ht => ?_
          have hti : t < i := by simp [is, nats] at ht; omega
          rw [Nat.zero_add, cell_setCells_low _ _ _ hti, hf1.2 t (by omega), hf3 t hti]
          simp [is, nats, List.getD_eq_getElem?_getD]
          rw [List.getElem?_eq_getElem (by omega)]
          rfl, grown_trans hf6 (grown_setCellsI g _ i wr), typed_setCells _ _ _ hf1.1⟩
        have hi1 : (0 : Int) ≤ (i : Int) := by omega
        have hi2 : (i : Int) ≤ (j : Int) := by omega
        have hi3 : (j : Int) ≤ (cap : Int) := by omega
        have hi4 : (i : Int) ≤ (cap : Int) := by omega
        have hi5 : i ≤ cap := by omega
        have hi6 : ¬ j < j := by omega
        clear hf1 hf2 hf3 hf4 hf5 hf6 ek HI
        have hc0 := hcl 0
        clear hcl
        go_wp2
        go_ret
        exact ⟨i, rfl, R⟩
  · have hN : ∀ j (hj : j < N.length), D N[j] = false := fun j hj => by
      have := List.not_of_lt_findIdx (p := D) (xs := N) (i := j) (by omega)
      simpa using this
    rw [idxN_none hN] at hI
    have ef : (N.filter fun x => !D x) = N := List.filter_eq_self.2 fun x hx => by
      obtain ⟨j, hj, rfl⟩ := List.getElem_of_mem hx
      simp [hN j hj]
    rw [ef]
    have R : Shut (N.length = z ∧ Lies w (some ⟨g, 0, none⟩) (is (nats N)) ∧ w.grownBy w (some g) ∧ ∃ cur, w.heap[g]? = some (.cells cur 3 (0, 0))) := ⟨hz, hl, grown_refl _ _, hg⟩
    clear hl hg hz hcl hsome ef hN
    go_enter Tryd.func57, Tryd.ntmps57
    go_wp2_with fail
    refine hI.mono ?_
    rintro e w1 ⟨rfl, rfl⟩
    clear hI
    go_wp2
    go_ret
    exact ⟨z, rfl, R⟩

end Go.Proofs.YtkiejflgphjfjacDoor
