import Derived.Test.YtkiejflgphjfjadDoorPart19
import Derived.Test.YtkiejflgphjfjadDoorPart17
import Derived.Test.YtkiejflgphjfjadDoorPart5
import Derived.Test.YtkiejflgphjfjadDoorPart7
import Derived.Test.YtkiejflgphjfjadDoorPart8
/-
  peel.Known: its contract.
-/
namespace Go.Proofs.YtkiejflgphjfjadDoor
open Go.RowKit
set_option linter.unusedVariables false
set_option linter.unusedSimpArgs false

/-- nothing is known -/
def noneK (nb : Nat) : Kn := List.replicate nb []

theorem noneK_ok (nb k : Nat) : KOk nb k (noneK nb) := ⟨by simp [noneK], fun d hd => .inl (List.eq_of_mem_replicate hd)⟩

theorem noneK_knw (nb j : Nat) : knw (noneK nb) j = false := by
  unfold knw noneK
  rw [List.getD_eq_getElem?_getD, List.getElem?_replicate]
  split <;> simp

/-- what chapter 6's Known answers -/
noncomputable def peeCode (B K : Int) (ls : List LSym) : Int := if chkP B K ≠ 0 then chkP B K else if 60 < ls.length then 2 else chkAll B K ls
noncomputable def peeRes (nb k : Nat) (ls : List LSym) : Kn := peelL nb k (ls.map (rowOf nb)) (noneK nb)

def nilV : Value → Bool
  | .slice none _ _ => true
  | _ => false

def isT : Value → Bool
  | .bool b => b
  | _ => false

/-- how many blocks aren't known, read off the memory -/
def unkW (w : World) (kb : Nat) : Nat :=
  match w.heap[kb]? with
  | some (.cells c _ _) => c.toList.countP nilV
  | _ => 0

theorem KnAt.unk {w : World} {kb nb k : Nat} {bl : List Blk} {K : Kn} (h : KnAt w kb nb k bl K) : unkW w kb = cntU K := by
  obtain ⟨h1, h2, h3, h4, h5, h6, h7⟩ := h
  unfold unkW cntU
  rw [h1, ← h5]
  simp only [List.countP_map]
  refine List.countP_congr fun b hb => ?_
  show nilV b.val = true ↔ b.l.isEmpty = true
  constructor
  · intro hv
    cases ha : b.a with
    | none =>
      have := (h3 b hb).1
      rw [ha] at this
      rcases Nat.eq_zero_or_pos b.l.length with h0 | h0
      · simpa using h0
      · obtain ⟨_, _, e⟩ := this.some (k := 0) (by simpa [bs] using h0)
        cases e
    | some a => unfold Blk.val nilV at hv; rw [ha] at hv; cases hv
  · intro he
    rw [h4 b hb (by simpa using he)]
    rfl

theorem KnAt.start (w : World) (nb k : Nat) : KnAt (w.alloc (.cells (madeCells #[Value.slice none 0 0] nb) 35)) w.heap.size nb k (List.replicate nb nilB) (noneK nb) := by
  refine ⟨?_, by simp, fun b hb => ?_, fun b hb _ => List.eq_of_mem_replicate hb, by simp [noneK, nilB], noneK_ok nb k, fun b hb g o e => ?_⟩
  · obtain ⟨c, hc, hs, hv⟩ := World.rowIs_made w (.slice none 0 0) nb 35
    rw [hc]
    congr 2
    apply Array.ext
    · simp [hs]
    · intro i h1 h2
      have := hv i (by omega)
      rw [Array.getElem?_eq_getElem h1] at this
      simp [Option.some.inj this, Blk.val, nilB]
  · rw [List.eq_of_mem_replicate hb]
    exact ⟨Lies.nil _ _, by simp [nilB]⟩
  · rw [List.eq_of_mem_replicate hb] at e
    cases e

/-- the state of Known's loop -/
def PkSt (w2 wr : World) (kb nb k : Nat) (ra : Option Addr) (z rc : Nat) (more : Bool) (F : Kn) : Prop :=
  ∃ (rows : List MRow) (A : List LRow) (bl : List Blk) (K : Kn), wr.ownsRow 0 70 2 (.slice ra z rc) z (rowCells rows) ∧ rows.length = z ∧ (∀ r ∈ rows, RowIn wr r) ∧ rows.map MRow.says = A ∧ (∀ r ∈ A, Fits nb k r) ∧ KnAt wr kb nb k bl K ∧ (if more = true then peelL nb k A K else K) = F ∧ w2.grownBy wr (some kb)

theorem peelK_plan (B K : Int) (la : Option Addr) (m lc : Nat) (w : World) (hB : I64 B) (hK : I64 K) (h : chkP B K ≠ 0) :
    Calls Tryd.prog 7 #[.agg #[.int .i64 B, .int .i64 K], .slice la m lc] w fun e w' => e = .returned (.tuple #[.slice none 0 0, .int .i64 (chkP B K)]) ∧ Below w.heap.size w w' := by
  have hBl : Below w.heap.size w (w.alloc (.cells #[.int .i64 B, .int .i64 K] 23)) := (Below.refl _ _).alloc (Nat.le_refl _) _
  obtain ⟨x0, x1⟩ := Box2.mk w (.int .i64 B) (.int .i64 K) 23
  have hC := cutCheck_any B K (w.alloc (.cells #[.int .i64 B, .int .i64 K] 23)) hB hK
  obtain ⟨q, hq⟩ : ∃ q, chkP B K = q := ⟨_, rfl⟩
  rw [hq] at hC h ⊢
  have h' : (q != 0) = true := by simpa using h
  clear hq
  go_enter Tryd.func7, Tryd.ntmps7
  go_wp2_with fail
  refine hC.mono ?_
  rintro e w1 ⟨rfl, hb⟩
  have hb1 := hBl.trans (hb.mono hBl.size)
  clear hC hb x0 x1 hBl
  go_wp2
  go_ret2
  exact ⟨rfl, hb1⟩

theorem peelK_many (B K : Int) (n k nb : Nat) (la : Option Addr) (m lc : Nat) (w : World) (g : Good B K n k nb) (hB : I64 B) (hK : I64 K) (hm : m ≤ maxLen) (h : 60 < m) :
    Calls Tryd.prog 7 #[.agg #[.int .i64 B, .int .i64 K], .slice la m lc] w fun e w' => e = .returned (.tuple #[.slice none 0 0, .int .i64 2]) ∧ Below w.heap.size w w' := by
  have hBl : Below w.heap.size w (w.alloc (.cells #[.int .i64 B, .int .i64 K] 23)) := (Below.refl _ _).alloc (Nat.le_refl _) _
  obtain ⟨x0, x1⟩ := Box2.mk w (.int .i64 B) (.int .i64 K) 23
  have hC := cutCheck_any B K (w.alloc (.cells #[.int .i64 B, .int .i64 K] 23)) hB hK
  rw [chkP_good g] at hC
  unfold maxLen at hm
  go_enter Tryd.func7, Tryd.ntmps7
  go_wp2_with fail
  refine hC.mono ?_
  rintro e w1 ⟨rfl, hb⟩
  have hb1 := hBl.trans (hb.mono hBl.size)
  clear hC hb x0 x1 hBl
  go_wp2
  go_ret2
  exact ⟨rfl, hb1⟩

set_option maxRecDepth 8000 in
set_option maxHeartbeats 4000000 in
theorem peelK_good (B K : Int) (n k nb m : Nat) (la : Option Addr) (lc : Nat) (l : List MSym) (ls : List LSym) (w : World) (g : Good B K n k nb) (hB : I64 B) (hK : I64 K) (hl : Lies w la (symCells l)) (hall : ∀ y ∈ l, SymIn w y) (hm : l.length = m) (h60 : m ≤ 60) (hls : l.map MSym.says = ls) (hL : Laid w) :
    Calls Tryd.prog 7 #[.agg #[.int .i64 B, .int .i64 K], .slice la m lc] w fun e w' =>
      ((chkAll B K ls ≠ 0 ∧ e = .returned (.tuple #[.slice none 0 0, .int .i64 (chkAll B K ls)])) ∨
        ∃ (kb : Nat) (bl : List Blk), e = .returned (.tuple #[.slice (some ⟨kb, 0, none⟩) nb nb, .int .i64 0]) ∧ Shut (chkAll B K ls = 0 ∧ KnAt w' kb nb k bl (peeRes nb k ls))) ∧ Below w.heap.size w w' := by
  have b1 := g.b1
  have b2 := g.b2
  have k1 := g.k1
  have k2 := g.k2
  have hBl : Below w.heap.size w (w.alloc (.cells #[.int .i64 B, .int .i64 K] 23)) := (Below.refl _ _).alloc (Nat.le_refl _) _
  have HPB : Shut ((w.alloc (.cells #[.int .i64 B, .int .i64 K] 23)).heap[w.heap.size]? = some (.cells #[.int .i64 B, .int .i64 K] 23 (0, 0))) := ⟨by rw [heap_alloc_eq, if_pos rfl]⟩
  obtain ⟨x0, x1⟩ := cells2 HPB.out
  have hC := cutCheck_any B K (w.alloc (.cells #[.int .i64 B, .int .i64 K] 23)) hB hK
  rw [chkP_good g] at hC
  have hBk : ∀ W, Calls Tryd.prog 13 #[.agg #[.int .i64 B, .int .i64 K]] W fun e w' => e = .returned (.int .i64 nb) ∧ Below W.heap.size W w' := fun W => by
    have h := cutBlocks_any B K W hB hK
    rw [g.eN] at h
    exact h
  have hRw : ∀ W, Below w.heap.size w W → Calls Tryd.prog 16 #[.agg #[.int .i64 B, .int .i64 K], .slice la m lc] W fun e w' =>
      ((chkAll B K ls ≠ 0 ∧ e = .returned (.tuple #[.slice none 0 0, .int .i64 (chkAll B K ls)])) ∨
        ∃ (ra : Option Addr) (rc : Nat) (rows : List MRow), e = .returned (.tuple #[.slice ra m rc, .int .i64 0]) ∧ Shut (chkAll B K ls = 0 ∧ w'.ownsRow 0 70 2 (.slice ra m rc) m (rowCells rows) ∧ rows.length = m ∧ (∀ r ∈ rows, RowIn w' r) ∧ rows.map MRow.says = ls.map (rowOf nb) ∧ ∀ r ∈ rows, Fits nb k r.says)) ∧ Below W.heap.size W w' := fun W hW =>
    rowsP_any B K n k nb m la lc l ls W g hB hK (hl.below hW (Nat.le_refl _)) (fun y hy => (hall y hy).below hW) hm h60 hls (hL.below hW)
  have hmk := run_make_row' (P := Tryd.prog) 26 35 (.slice none 0 0) 24 Tryd.underlying26 infoBlk rfl .i64 .i64 nb (by omega) (by omega)
  have h60n : ¬ 60 < m := by omega
  clear hl hall hm hls hL g
  go_enter Tryd.func7, Tryd.ntmps7
  go_wp2_with fail
  refine hC.mono ?_
  rintro e w1 ⟨rfl, hb⟩
  replace HPB := Shut.mk (blk_below HPB.out hb)
  have hb1 := hBl.trans (hb.mono hBl.size)
  clear hC hb x0 x1 hBl
  obtain ⟨x0, x1⟩ := cells2 HPB.out
  have hR1 := hRw w1 hb1
  clear hRw
  go_wp2_with fail
  refine hR1.mono ?_
  rintro e w2 ⟨hcase, hb2⟩
  replace HPB := Shut.mk (blk_below HPB.out hb2)
  replace hb1 := hb1.trans (hb2.mono hb1.size)
  clear hR1 hb2 x0 x1
  obtain ⟨x0, x1⟩ := cells2 HPB.out
  rcases hcase with ⟨hno, rfl⟩ | ⟨ra, rc, rows, rfl, HR⟩
  · obtain ⟨q, hq⟩ : ∃ q, chkAll B K ls = q := ⟨_, rfl⟩
    have HQ := Shut.mk hq
    rw [hq] at hno ⊢
    have h' : (q != 0) = true := by simpa using hno
    have HN := Shut.mk hno
    clear hq hno
    go_wp2
    go_ret2
    exact ⟨.inl ⟨by rw [HQ.out]; exact HN.out, by rw [HQ.out]; rfl⟩, hb1⟩
  · go_wp2_with fail
    refine (hBk _).mono ?_
    rintro e w3 ⟨rfl, hb3⟩
    clear hBk x0 x1
    have hb13 := hb1.trans (hb3.mono hb1.size)
    have bd : Below w3.heap.size w3 (w3.alloc (.cells (madeCells #[Value.slice none 0 0] nb) 35)) := (Below.refl _ _).alloc (Nat.le_refl _) _
    have h24 := hb3.trans (bd.mono hb3.size)
    have HS : Shut (PkSt (w3.alloc (.cells (madeCells #[Value.slice none 0 0] nb) 35)) (w3.alloc (.cells (madeCells #[Value.slice none 0 0] nb) 35)) w3.heap.size nb k ra m rc true (peeRes nb k ls)) := ⟨rows, _, _, _, own_below2 HR.out.2.1 h24, HR.out.2.2.1, fun r hr => (HR.out.2.2.2.1 r hr).below h24, HR.out.2.2.2.2.1, fun r hr => by
      rw [← HR.out.2.2.2.2.1] at hr
      obtain ⟨x, hx, rfl⟩ := List.mem_map.1 hr
      exact HR.out.2.2.2.2.2 x hx, KnAt.start w3 nb k, by rw [if_pos rfl]; rfl, grown_refl _ _⟩
    have hbw := hb13.trans (bd.mono hb13.size)
    have HCA : Shut (chkAll B K ls = 0) := ⟨HR.out.1⟩
    clear HPB HR hb3 h24 bd
    go_wp2
    obtain ⟨kb, hkb⟩ : ∃ kb, w3.heap.size = kb := ⟨_, rfl⟩
    obtain ⟨W4, hW4⟩ : ∃ W4, w3.alloc (.cells (madeCells #[Value.slice none 0 0] nb) 35) = W4 := ⟨_, rfl⟩
    rw [hW4] at HS hbw ⊢
    rw [hkb] at HS ⊢
    have HKB : Shut (w.heap.size ≤ kb) := ⟨by rw [← hkb]; exact hb13.size⟩
    clear hW4 hkb hb13 hmk hb1
    go_loopw [7, 10] (fun v b wr => ∃ (ra : Option Addr) (z rc : Nat) (more : Bool), z ≤ 60 ∧ v = .slice ra z rc ∧ b = .bool more ∧ Shut (PkSt W4 wr kb nb k ra z rc more (peeRes nb k ls))) (fun _ b wr => if isT b = true then unkW wr kb + 1 else 0)
    case atStart => exact ⟨ra, m, rc, true, h60, rfl, rfl, HS⟩
    case round =>
      clear HS
      obtain ⟨ra, z, rc, more, hz, rfl, rfl, HI⟩ := hrel
      obtain ⟨rows, A, bl, KK, h1, h2, h3, h4, h5, h6, h7, h8⟩ := HI.out
      cases more
      · have R : Shut (KnAt wr kb nb k bl (peeRes nb k ls)) := ⟨by rw [← h7, if_neg (by simp)]; exact h6⟩
        have hF : Below w.heap.size w wr := ⟨h8.os.trans hbw.os, h8.tape.trans hbw.tape, h8.output.trans hbw.output, Nat.le_trans hbw.size h8.size, fun i hi => (h8.block i (Nat.lt_of_lt_of_le hi hbw.size) fun e => by have := HKB.out; injection e; omega).trans (hbw.block i hi)⟩
        clear h1 h2 h3 h4 h5 h6 h7 h8 HI
        go_wp2
        go_ret2
        exact ⟨.inr ⟨kb, bl, rfl, ⟨HCA.out, R.out⟩⟩, hF⟩
      · have hRd := round_any nb k kb z ra rc rows A bl KK wr h1 h3 h4 h5 h2 hz k1 k2 b1 b2 h6
        have hun := h6.unk
        have hrk := round_keeps (rows := A) k1 h6.2.2.2.2.2.1
        have hps := peelL_step k1 A KK h6.2.2.2.2.2.1
        rw [if_pos rfl] at h7
        have hfl := fold_len (n := nb) (k := k) A ([], KK, false)
        have HI2 := Shut.mk (And.intro h1 (And.intro h2 (And.intro h3 (And.intro h4 (And.intro h5 (And.intro h6 (And.intro h7 (And.intro h8 (And.intro hrk (And.intro hps hfl))))))))))
        have HUN := Shut.mk hun
        clear h1 h2 h3 h4 h5 h6 h7 h8 HI hun hrk hps hfl
        go_wp2_with fail
        refine hRd.mono ?_
        rintro e w5 ⟨la5, lc5, z5, left5, bl5, rfl, H5⟩
        obtain ⟨mb, hmb⟩ : ∃ mb, (roundP nb k A KK).2.2 = mb := ⟨_, rfl⟩
        rw [hmb]
        have hz5 : z5 ≤ 60 := by
          have e1 : left5.length = (roundP nb k A KK).1.length := by rw [← H5.out.2.2.1]; simp
          have e2 : (roundP nb k A KK).1.length ≤ 0 + A.length := HI2.out.2.2.2.2.2.2.2.2.2.2
          have e3 : A.length = z := by rw [← HI2.out.2.2.2.1]; simpa using HI2.out.2.1
          have := H5.out.2.1
          omega
        have R : Shut (PkSt W4 w5 kb nb k la5 z5 lc5 mb (peeRes nb k ls)) := ⟨left5, _, bl5, _, H5.out.1, H5.out.2.1, fun r hr => HI2.out.2.2.2.2.2.1.rows b1 k1 (HI2.out.2.2.1 r (H5.out.2.2.2.1 r hr)) (HI2.out.2.2.2.2.1 _ (by rw [← HI2.out.2.2.2.1]; exact List.mem_map_of_mem (H5.out.2.2.2.1 r hr))) H5.out.2.2.2.2.2, H5.out.2.2.1, fun r hr => HI2.out.2.2.2.2.1 r (HI2.out.2.2.2.2.2.2.2.2.1.2.2.2.2.2 r hr), H5.out.2.2.2.2.1, by rw [← hmb, ← HI2.out.2.2.2.2.2.2.1, HI2.out.2.2.2.2.2.2.2.2.2.1], grown_trans HI2.out.2.2.2.2.2.2.2.1 H5.out.2.2.2.2.2⟩
        have HM : Shut (mb = true → unkW w5 kb < unkW wr kb) := ⟨fun e => by
          rw [H5.out.2.2.2.2.1.unk, HUN.out]
          exact HI2.out.2.2.2.2.2.2.2.2.1.2.2.1 (by rw [hmb]; exact e)⟩
        clear hRd H5 hmb HI2 HUN
        go_wp2
        go_roundw
        case rel => exact ⟨la5, z5, lc5, mb, hz5, rfl, rfl, R⟩
        case measure =>
          simp only [isT, if_true]
          cases mb
          · simp
          · have := HM.out rfl
            simp
            omega

end Go.Proofs.YtkiejflgphjfjadDoor

/-
  SolveNever: the walk.
-/
namespace Go.Proofs.YtkiejflgphjfjadDoor
open Go.RowKit
set_option linter.unusedVariables false
set_option linter.unusedSimpArgs false

theorem cloneD_own (b o cap k : Nat) (xs : List UInt8) (w : World) (hx : xs.length = k) (hn : k ≤ 16) (ha : Lies w (some ⟨b, o, none⟩) (bs xs)) :
    Calls Tryd.prog 33 #[.slice (some ⟨b, o, none⟩) k cap] w fun e w' => ∃ (p : Option Addr) (q : Nat), e = .returned (.slice p k q) ∧ Lies w' p (bs xs) ∧ Below w.heap.size w w' ∧ k ≤ q ∧ w'.ownsRow w.heap.size 5 1 (.slice p k q) k (bs xs) := by
  subst hx
  obtain ⟨i0, hi, hz0, hz1, hz2⟩ := info_parts infoU8
  have hne : ∀ W : World, (binOp .eql 35 (.slice (some ⟨b, o, none⟩) xs.length cap) (.slice none 0 0)).run Tryd.prog W = .ok (.bool false) W := fun W => Lib.run_eql_slice_nil W 35 5 (some ⟨b, o, none⟩) xs.length cap 0 0 Tryd.underlying35
  go_enter Tryd.func33, Tryd.ntmps33
  have hown : (w.alloc (.cells #[] 5)).ownsRow w.heap.size 5 1 (.slice (some ⟨w.heap.size, 0, none⟩) 0 0) 0 [] :=
    ⟨rfl, .inr ⟨w.heap.size, 0, #[], rfl, Nat.le_refl _, by rw [heap_alloc_eq, if_pos rfl], Nat.le_refl _, by unfold maxLen; omega, rfl, rfl⟩⟩
  have hla := ha.alloc (.cells #[] 5)
  clear ha
  go_wp2_with (first | (at_builtin; refine wpList_append_own _ rfl _ _ 35 rfl w.heap.size 5 i0 (.int .u8 0) 1 1 Tryd.underlying35 hi hz0 hz1 hz2 rfl (by decide) _ _ _ rfl hown ⟨b, o, none⟩ xs.length cap (bs xs) rfl ?c0 ?c1 ?c2 ?c3 ?c4 ?c5 ?_) | go_in)
  case c0 => simp [bs]
  case c1 =>
    intro j u hj
    have := hla.at hj
    simpa [Addr.add_lit] using this
  case c2 =>
    intro v hv
    obtain ⟨x, _, rfl⟩ := List.mem_map.1 hv
    rfl
  case c3 => unfold maxLen; omega
  case c4 => omega
  case c5 => simp
  intro v' w' hown' hgrow _
  have hb : Below w.heap.size w w' := ((Below.refl _ _).alloc (Nat.le_refl _) _).grown hgrow (by simp) fun g hg => (hown.lt g hg).1
  clear hgrow hown hla
  obtain ⟨p, q, hv, hpq⟩ := own_slice hown'
  subst hv
  obtain ⟨p', q', hv', hlp, _⟩ := own_lies hown'
  cases hv'
  have HO := Shut.mk hown'
  clear hown'
  go_wp2
  go_ret
  exact ⟨p, q, rfl, hlp, hb, hpq, by simpa using HO.out⟩

theorem lies_put {w : World} {b j : Nat} {xs : List Value} {v : Value} (h : Lies w (some ⟨b, 0, none⟩) xs) (hj : j < xs.length) : Lies (w.setCell ⟨b, j, none⟩ v) (some ⟨b, 0, none⟩) (xs.set j v) := by
  refine Lies.mk fun k hk => ?_
  have hk' : k < xs.length := by simpa using hk
  have h0 := h.at (List.getElem?_eq_getElem hk')
  rw [Nat.zero_add] at h0 ⊢
  by_cases e : j = k
  · subst e
    rw [World.cell?_setCell_same _ _ _ h0]
    simp
  · rw [World.cell?_setCell_other _ _ _ _ (by intro h; injection h; omega), h0]
    simp [List.getElem_set, e]

theorem symCells_set {Y : MSym} : ∀ {l : List MSym} {j : Nat} (hj : j < l.length), Y.id = l[j].id → symCells (l.set j Y) = (symCells l).set (j * 2 + 1) Y.dv := by
  intro l
  induction l with
  | nil => intro j hj; simp at hj
  | cons r l ih =>
    intro j hj he
    have e : ∀ r l, symCells (r :: l) = .int .i64 r.id :: r.dv :: symCells l := fun _ _ => rfl
    cases j with
    | zero => simp only [List.set_cons_zero, e]; simp at he; rw [he]; rfl
    | succ j =>
      have := ih (j := j) (by simpa using hj) (by simpa using he)
      rw [List.set_cons_succ, e, e, this, show (j + 1) * 2 + 1 = (j * 2 + 1) + 1 + 1 by omega, List.set_cons_succ, List.set_cons_succ]

theorem u8_one (x : UInt8) : bits .xor .u8 (x.toNat : Int) 1 = ((x ^^^ 1).toNat : Int) := by
  have := u8xor x 1
  simpa using this

theorem u8_turned (x : UInt8) : x ^^^ 1 ≠ x := by
  intro h
  have h2 := congrArg (x ^^^ ·) h
  simp only [← UInt8.xor_assoc, UInt8.xor_self, UInt8.zero_xor] at h2
  exact absurd h2 (by decide)

end Go.Proofs.YtkiejflgphjfjadDoor

/-
  SolveNever: the walk, where all is right.
-/
namespace Go.Proofs.YtkiejflgphjfjadDoor
open Go.RowKit
set_option linter.unusedVariables false
set_option linter.unusedSimpArgs false

/-- what the first Decode of the law answers -/
theorem never_first {B K : Int} {n k nb : Nat} (g : Good B K n k nb) {c : List UInt8} (hc : c.length = n) {xs : List Int} {ls : List LSym} (hls : ls = (idsOf xs).map (symOf nb k c)) :
    (decCode B K ls = 8 ∧ decRes B K ls = []) ∨ (decCode B K ls = 0 ∧ decRes B K ls = c ∧ 0 < (idsOf xs).length) := by
  subst hls
  obtain ⟨P, hP, hR, hS, hT, hA⟩ := sym_rows g c (idsOf xs) (idsOf_le xs)
  have h60 : (idsOf xs).length ≤ 60 := by rw [idsOf_length]; omega
  rcases dec_true g hc (idsOf_le xs) h60 hP with ⟨_, h⟩ | ⟨hl, h1, h2⟩
  · exact .inl h
  · refine .inr ⟨h1, h2, ?_⟩
    have hb := g.b1
    rcases Nat.eq_zero_or_pos (idsOf xs).length with h0 | h0
    · have e : idsOf xs = [] := List.eq_nil_of_length_eq_zero h0
      rw [e] at hP
      simp [addAll] at hP
      subst hP
      simp at hl
      omega
    · exact h0

/-- the list behind both stores -/
theorem never_stored {w w5 : World} {lb pb j k q nb B0 : Nat} {l : List MSym} {c : List UInt8} {v : Value} (hj : j < l.length) (hv : v.ownBlock = some lb) (hl : Lies w5 (some ⟨lb, 0, none⟩) (symCells l)) (hall : ∀ y ∈ l, SymIn w5 y ∧ ∀ b o, y.a = some ⟨b, o, none⟩ → b < pb ∧ v.ownBlock ≠ some b) (hlp : lb < pb)
    (hd : Lies w5 (some ⟨pb, 0, none⟩) (bs l[j].d)) (h1 : 1 ≤ l[j].d.length) (h2 : l[j].d.length = k) (k2 : k ≤ 16) (x : UInt8) (hx : l[j].d[0]? = some x) :
    ∃ l' : List MSym, l'.length = l.length ∧ Lies ((w5.setCell ⟨lb, j * 2 + 1, none⟩ (.slice (some ⟨pb, 0, none⟩) k q)).setCell ⟨pb, 0, none⟩ (.int .u8 ((x ^^^ 1).toNat : Int))) (some ⟨lb, 0, none⟩) (symCells l') ∧
      (∀ y ∈ l', SymIn ((w5.setCell ⟨lb, j * 2 + 1, none⟩ (.slice (some ⟨pb, 0, none⟩) k q)).setCell ⟨pb, 0, none⟩ (.int .u8 ((x ^^^ 1).toNat : Int))) y) ∧ (l[j].id, l[j].d.set 0 (x ^^^ 1)) ∈ l'.map MSym.says := by
  have gl : w5.grownBy (w5.setCell ⟨lb, j * 2 + 1, none⟩ (.slice (some ⟨pb, 0, none⟩) k q)) (some lb) := grown_setCell w5 lb _ _
  have gp := grown_setCell (w5.setCell ⟨lb, j * 2 + 1, none⟩ (.slice (some ⟨pb, 0, none⟩) k q)) pb 0 (.int .u8 ((x ^^^ 1).toNat : Int))
  refine ⟨l.set j ⟨l[j].id, some ⟨pb, 0, none⟩, q, l[j].d.set 0 (x ^^^ 1)⟩, by simp, ?_, ?_, ?_⟩
  · rw [symCells_set (Y := ⟨l[j].id, some ⟨pb, 0, none⟩, q, l[j].d.set 0 (x ^^^ 1)⟩) hj rfl]
    refine lies_grown gp ?_ fun b o e => by cases e; omega
    have := lies_put (v := (MSym.dv ⟨l[j].id, some ⟨pb, 0, none⟩, q, l[j].d.set 0 (x ^^^ 1)⟩)) hl (j := j * 2 + 1) (by rw [symCells_length]; omega)
    simpa [MSym.dv, h2] using this
  · intro y hy
    rcases List.mem_or_eq_of_mem_set hy with hy | rfl
    · obtain ⟨s1, s2⟩ := hall y hy
      refine ⟨lies_grown gp (lies_grown gl s1.1 fun b o e => ?_) fun b o e => ?_, s1.2⟩
      · have := (s2 b o e).2
        intro e2
        subst e2
        exact this hv
      · have := (s2 b o e).1
        omega
    · refine ⟨?_, by simp only [List.length_set]; unfold maxLen; omega⟩
      have hd2 := lies_grown gl hd fun b o e => by cases e; omega
      have := lies_put (v := .int .u8 ((x ^^^ 1).toNat : Int)) hd2 (j := 0) (by simp [bs]; omega)
      simpa [bs, List.map_set] using this
  · refine List.mem_map.2 ⟨_, List.mem_set hj _, rfl⟩

theorem decRes_len (B K : Int) (l : List LSym) : (decRes B K l).length ≤ B.toNat := by
  unfold decRes joinRes
  repeat' split
  all_goals first
    | simp; done
    | (rw [List.length_take]; omega)

theorem sym_of {l : List MSym} {ids : List Nat} {nb k : Nat} {c : List UInt8} (h : l.map MSym.says = ids.map (symOf nb k c)) {j : Nat} (hj : j < l.length) : ∃ i : Nat, l[j].id = i ∧ l[j].d = symL nb k c i := by
  have hl := congrArg List.length h
  simp at hl
  have h2 : (l.map MSym.says)[j]? = (ids.map (symOf nb k c))[j]? := by rw [h]
  rw [List.getElem?_map, List.getElem?_map, List.getElem?_eq_getElem hj, List.getElem?_eq_getElem (by omega)] at h2
  simp [MSym.says, symOf] at h2
  exact ⟨_, h2.1, h2.2⟩

theorem own_head {w : World} {B n c : Nat} {e : TypeId} {p : Option Addr} {xs : List Value} (h : w.ownsRow B e 1 (.slice p n c) n xs) (hn : 0 < n) : ∃ g cur, p = some ⟨g, 0, none⟩ ∧ B ≤ g ∧ w.heap[g]? = some (.cells cur e (0, 0)) := by
  rcases h.2 with ⟨_, h0⟩ | ⟨g, cap, cur, e1, hb, hg, _⟩
  · omega
  · cases e1
    exact ⟨g, cur, rfl, hb, hg⟩

end Go.Proofs.YtkiejflgphjfjadDoor

/-
  SolveOrder: what Decode answers by which numbers come, whatever their order.
-/
namespace Go.Proofs.YtkiejflgphjfjadDoor
open Go.RowKit
set_option linter.unusedVariables false

theorem code_two {B K : Int} {n k nb : Nat} (g : Good B K n k nb) {c : List UInt8} (hc : c.length = n) {ids : List Nat} (hi : ∀ i ∈ ids, i ≤ 9999) (hl : ids.length ≤ 60) :
    decCode B K (ids.map (symOf nb k c)) = 8 ∨ decCode B K (ids.map (symOf nb k c)) = 0 := by
  obtain ⟨P, hP, _⟩ := sym_rows g c ids hi
  rcases dec_true g hc hi hl hP with ⟨_, h, _⟩ | ⟨_, h, _⟩
  · exact .inl h
  · exact .inr h

/-- with more symbols no less is known -/
theorem code_sub {B K : Int} {n k nb : Nat} (g : Good B K n k nb) {c : List UInt8} (hc : c.length = n) {ids js : List Nat} (hi : ∀ i ∈ ids, i ≤ 9999) (hj : ∀ i ∈ js, i ≤ 9999) (hl : ids.length ≤ 60) (hm : js.length ≤ 60) (hs : ∀ i ∈ ids, i ∈ js) (h0 : decCode B K (ids.map (symOf nb k c)) = 0) :
    decCode B K (js.map (symOf nb k c)) = 0 ∧ decRes B K (js.map (symOf nb k c)) = c := by
  obtain ⟨P, hP, hR, hS, hT, hA⟩ := sym_rows g c ids hi
  obtain ⟨Q, hQ, hR2, hS2, hT2, hA2⟩ := sym_rows g c js hj
  rcases dec_true g hc hi hl hP with ⟨_, h, _⟩ | ⟨hn, _, _⟩
  · rw [h0] at h; cases h
  · have hq := full_more hR hR2 hn fun v hv => (hS2 v).2 (((hS v).1 hv).mono fun x hx => by
      simp only [List.mem_map] at hx ⊢
      obtain ⟨r, ⟨i, hii, rfl⟩, rfl⟩ := hx
      exact ⟨_, ⟨i, hs i hii, rfl⟩, rfl⟩)
    rcases dec_true g hc hj hm hQ with ⟨h, _⟩ | ⟨_, h1, h2⟩
    · omega
    · exact ⟨h1, h2⟩

theorem code_same {B K : Int} {n k nb : Nat} (g : Good B K n k nb) {c : List UInt8} (hc : c.length = n) {ids js : List Nat} (hi : ∀ i ∈ ids, i ≤ 9999) (hj : ∀ i ∈ js, i ≤ 9999) (hl : ids.length ≤ 60) (hm : js.length ≤ 60) (hs : ∀ i, i ∈ ids ↔ i ∈ js) :
    decCode B K (js.map (symOf nb k c)) = decCode B K (ids.map (symOf nb k c)) := by
  rcases code_two g hc hi hl with h | h
  · rcases code_two g hc hj hm with h2 | h2
    · rw [h, h2]
    · rw [(code_sub g hc hj hi hm hl (fun i hh => (hs i).2 hh) h2).1] at h
      cases h
  · rw [h, (code_sub g hc hi hj hl hm (fun i hh => (hs i).1 hh) h).1]

end Go.Proofs.YtkiejflgphjfjadDoor

/-
  slices.Grow of nothing and slices.Concat at symbols: the contract of each.
-/
namespace Go.Proofs.YtkiejflgphjfjadDoor
open Go.RowKit
set_option linter.unusedVariables false
set_option linter.unusedSimpArgs false

/-- a list of symbols in memory -/
structure SBlk where
  a : Option Addr
  cap : Nat
  l : List MSym

def SBlk.val (b : SBlk) : Value := .slice b.a b.l.length b.cap

theorem zeroCells_size2 (x y : Value) (n : Nat) : (Builtin.zeroCells #[x, y] n).size = n * 2 := by simp [Builtin.zeroCells]

theorem own_slice2 {w : World} {B : Nat} {e : TypeId} {v : Value} {n : Nat} {xs : List Value} (h : w.ownsRow B e 2 v n xs) : ∃ a cap, v = .slice a n cap ∧ n ≤ cap := by
  rcases h.2 with ⟨rfl, h0⟩ | ⟨g, cap, cur, rfl, hb, hg, hnc, hcm, hcs, htake⟩
  · exact ⟨none, 0, by rw [h0], by omega⟩
  · exact ⟨_, _, rfl, hnc⟩

theorem own_none2 {w : World} {B : Nat} {e : TypeId} {n q : Nat} {xs : List Value} (h : w.ownsRow B e 2 (.slice none n q) n xs) : q = 0 := by
  rcases h.2 with ⟨e1, h0⟩ | ⟨g, cap, cur, e1, hb, hg, hnc, hcm, hcs, htake⟩
  · simp at e1
    exact e1.2
  · simp at e1

set_option maxRecDepth 8000 in
set_option maxHeartbeats 1000000 in
theorem growS_nil (s : Nat) (w : World) (hs : s ≤ 65536) :
    Calls Tryd.prog 18 #[.slice none 0 0, .int .i64 s] w fun e w' => ∃ v, e = .returned v ∧ w'.ownsRow w.heap.size 37 2 v 0 [] ∧ Below w.heap.size w w' := by
  obtain ⟨i0, hi, hz0, hz1, hz2⟩ := info_parts infoSym
  by_cases h0 : s = 0
  · subst h0
    go_enter Tryd.func18, Tryd.ntmps18
    go_wp2
    go_ret
    exact ⟨_, rfl, World.ownsRow_nil _ _ _ _, Below.refl _ _⟩
  · have h1 : 0 < s := by omega
    have h2 : (0 : Int) < (s : Int) := by omega
    clear h0
    have hrz : ∀ ty, (Builtin.append_ #[31, 3] ty #[.slice none 0 0, .int .i64 s]).run Tryd.prog w = .ok (.slice (some ⟨w.heap.size, 0, none⟩) s (grownCap w s 0 37)) (w.drew.alloc (.cells (Builtin.zeroCells #[.int .i64 0, .slice none 0 0] s ++ Builtin.zeroCells #[.int .i64 0, .slice none 0 0] (grownCap w s 0 37 - s)) 37)) := fun ty =>
      Lib.run_append_nil_zeros w 31 3 ty 37 i0 (.agg #[.int .i64 0, .slice none 0 0]) .i64 .i64 Tryd.underlying31 Tryd.underlying3 hi hz0 s h1 (by omega) (by omega) (by rw [hz2]; omega)
    have hGn : s ≤ grownCap w s 0 37 := grownCap_ge w _ _ _
    have hG63 := grownCap_le_maxLen w s 0 37 (by unfold maxLen; omega)
    have HR : Hid ((w.drew.alloc (.cells (Builtin.zeroCells #[.int .i64 0, .slice none 0 0] s ++ Builtin.zeroCells #[.int .i64 0, .slice none 0 0] (grownCap w s 0 37 - s)) 37)).ownsRow w.heap.size 37 2 (.slice (some ⟨w.heap.size, 0, none⟩) 0 (grownCap w s 0 37)) 0 []) :=
      ⟨rfl, .inr ⟨w.heap.size, _, _, rfl, Nat.le_refl _, (heap_alloc_eq w.drew _ _).trans (if_pos rfl), Nat.zero_le _, hG63, by simp [zeroCells_size2]; omega, rfl⟩⟩
    generalize grownCap w s 0 37 = G at *
    unfold maxLen at hG63
    have hG : (G : Int) ≤ 9223372036854775807 := by omega
    clear hG63
    go_enter Tryd.func18, Tryd.ntmps18
    go_wp2_with (at_builtin; refine Lib.wpList_append_run _ rfl _ _ _ _ rfl _ _ rfl rfl _ _ (hrz _) ?_)
    all_goals
      go_ret
      exact ⟨_, rfl, HR.out, (Below.refl _ _).drew.alloc (Nat.le_refl _) _⟩

/-- how many bytes the first m have -/
def totS (bl : List SBlk) (m : Nat) : Nat := (((bl.map SBlk.l).take m).flatten).length

theorem totS_succ {bl : List SBlk} {m : Nat} (h : m < bl.length) : totS bl (m + 1) = totS bl m + bl[m].l.length := by
  unfold totS
  rw [List.take_succ_eq_append_getElem (by simpa using h)]
  simp

theorem totS_le (bl : List SBlk) (m : Nat) : totS bl m ≤ ((bl.map SBlk.l).flatten).length := by
  unfold totS
  have h := congrArg (fun l => l.flatten.length) (List.take_append_drop m (bl.map SBlk.l))
  simp only [List.flatten_append, List.length_append] at h
  omega

theorem concatS_step {w wr w1 : World} {v v' : Value} {bl : List SBlk} {m : Nat} (hlt : m < bl.length) (hb : Below w.heap.size w wr) (ho : wr.ownsRow w.heap.size 37 2 v (totS bl m) (symCells ((bl.map SBlk.l).take m).flatten))
    (ho' : w1.ownsRow w.heap.size 37 2 v' (totS bl m + bl[m].l.length) (symCells ((bl.map SBlk.l).take m).flatten ++ symCells bl[m].l)) (hg : wr.grownBy w1 v.ownBlock) :
    w1.ownsRow w.heap.size 37 2 v' (totS bl (m + 1)) (symCells ((bl.map SBlk.l).take (m + 1)).flatten) ∧ Below w.heap.size w w1 := by
  refine ⟨?_, hb.grown hg hb.size fun g hg' => (ho.lt g hg').1⟩
  rw [totS_succ hlt, List.take_succ_eq_append_getElem (by simpa using hlt)]
  simpa [symCells] using ho'

theorem liesS_none {w : World} {l : List MSym} (h : Lies w none (symCells l)) : l = [] := by
  cases l with
  | nil => rfl
  | cons x r =>
    obtain ⟨_, _, e, _⟩ := h 0 _ (by simp [symCells]; rfl)
    simp at e

theorem liesS_add {w : World} {ad : Addr} {l : List MSym} (h : Lies w (some ad) (symCells l)) : ∀ j u, (symCells l)[j]? = some u → w.cell? (ad.add j) = some u := by
  intro j u hu
  obtain ⟨b, o, e, hc⟩ := h j u hu
  simp at e
  subst e
  simpa [Addr.add_lit] using hc

set_option maxRecDepth 8000 in
set_option maxHeartbeats 1000000 in
theorem concatS_any (a : Option Addr) (cap : Nat) (bl : List SBlk) (w : World) (hn : bl.length ≤ maxLen) (htot : ((bl.map SBlk.l).flatten).length ≤ 65536) (ha : Lies w a (bl.map SBlk.val)) (hall : ∀ b ∈ bl, Lies w b.a (symCells b.l)) :
    Calls Tryd.prog 8 #[.slice a bl.length cap] w fun e w' => ∃ v, e = .returned v ∧ w'.ownsRow w.heap.size 37 2 v ((bl.map SBlk.l).flatten).length (symCells (bl.map SBlk.l).flatten) ∧ Below w.heap.size w w' := by
  obtain ⟨i0, hi, hz0, hz1, hz2⟩ := info_parts infoSym
  have HT : Hid (((bl.map SBlk.l).flatten).length ≤ 65536) := htot
  unfold maxLen at hn
  clear htot
  go_enter Tryd.func8, Tryd.ntmps8
  go_wp2
  go_loop [3, 11] (fun c i => ∃ m : Nat, m ≤ bl.length ∧ i = .int .i64 m ∧ c = .int .i64 (totS bl m)) (fun _ i => bl.length - (intOf i).toNat)
  case atStart => exact ⟨0, Nat.zero_le _, rfl, rfl⟩
  case round =>
    obtain ⟨m, hm, rfl, rfl⟩ := hrel
    by_cases hlt : m < bl.length
    · obtain ⟨b1, o1, rfl⟩ := ha.some (k := m) (by simpa using hlt)
      have h1 : w.cell? ⟨b1, o1 + m, none⟩ = some (.slice bl[m].a bl[m].l.length bl[m].cap) := ha.at (by simp [hlt, SBlk.val])
      have hs := totS_succ hlt
      have hle := totS_le bl (m + 1)
      have := HT.out
      have hb1 : totS bl m ≤ 65536 := by omega
      have hb2 : bl[m].l.length ≤ 65536 := by omega
      have HS : Hid (totS bl (m + 1) = totS bl m + bl[m].l.length) := hs
      clear hs hle this
      go_wp2
      go_round
      case rel => exact ⟨m + 1, by omega, by go_num, congrArg (Value.int .i64) (by rw [HS.out]; simp)⟩
      case measure => simp [intOf]; omega
    · have HM : Hid (m = bl.length) := by have : m = bl.length := by omega
                                          exact this
      have hle := totS_le bl m
      have := HT.out
      have hb1 : totS bl m ≤ 65536 := by omega
      clear hle this
      go_wp2_with fail
      refine (growS_nil _ _ hb1).mono ?_
      rintro e w1 ⟨v1, rfl, ho1, hb⟩
      clear hb1
      go_wp2
      go_loopw [6, 27] (fun v i wr => ∃ m : Nat, m ≤ bl.length ∧ i = .int .i64 m ∧ wr.ownsRow w.heap.size 37 2 v (totS bl m) (symCells ((bl.map SBlk.l).take m).flatten) ∧ Below w.heap.size w wr) (fun _ i _ => bl.length - (intOf i).toNat)
      case atStart => exact ⟨0, Nat.zero_le _, rfl, ho1, hb⟩
      case round =>
        clear ho1 hb
        obtain ⟨m, hm, rfl, hown, hbw⟩ := hrel
        by_cases hlt : m < bl.length
        · obtain ⟨b1, o1, rfl⟩ := ha.some (k := m) (by simpa using hlt)
          have h1 : wr.cell? ⟨b1, o1 + m, none⟩ = some (.slice bl[m].a bl[m].l.length bl[m].cap) := (ha.below hbw (Nat.le_refl _)).at (by simp [hlt, SBlk.val])
          have hla := (hall bl[m] (by simp)).below hbw (Nat.le_refl _)
          have hsz := hbw.size
          have hs := totS_succ hlt
          have hle := totS_le bl (m + 1)
          have := HT.out
          have hb1 : totS bl m + bl[m].l.length ≤ 65536 := by omega
          have HS : Hid (totS bl (m + 1) = totS bl m + bl[m].l.length) := hs
          clear hs hle this
          cases had : bl[m].a with
          | none =>
            rw [had] at h1 hla
            have HE : Hid (bl[m].l = []) := liesS_none hla
            have h0 : bl[m].l.length = 0 := by rw [HE.out]; rfl
            rw [h0] at h1
            obtain ⟨p6, q6, rfl, hq6⟩ := own_slice2 hown
            have hq : p6 = none → q6 = 0 := fun e => by subst e; exact own_none2 hown
            have R : Hid (wr.ownsRow w.heap.size 37 2 (.slice p6 (totS bl m) q6) (totS bl (m + 1)) (symCells ((bl.map SBlk.l).take (m + 1)).flatten)) := by
              show wr.ownsRow w.heap.size 37 2 (.slice p6 (totS bl m) q6) (totS bl (m + 1)) (symCells ((bl.map SBlk.l).take (m + 1)).flatten)
              rw [HS.out, List.take_succ_eq_append_getElem (by simpa using hlt)]
              simpa [h0, HE.out] using hown
            clear had hla h0 hown hb1
            go_wp2_with (first | (at_builtin; refine Lib.wpList_append_run _ rfl _ _ _ _ rfl _ _ rfl rfl _ _ (run_append_nothing _ _ _ 37 i0 Tryd.underlying31 hi _ _ _ _ hq6) ?_) | go_in)
            go_roundw
            case rel => exact ⟨m + 1, by omega, by go_num, R.out, hbw⟩
            case measure => simp [intOf]; omega
          | some ad =>
            rw [had] at h1 hla
            clear had
            go_wp2_with (first | (at_builtin; refine wpList_append_own _ rfl _ _ 31 rfl w.heap.size 37 i0 (.agg #[.int .i64 0, .slice none 0 0]) 2 32 Tryd.underlying31 hi hz0 hz1 hz2 rfl (by decide) _ _ _ rfl hown ad bl[m].l.length bl[m].cap (symCells bl[m].l) rfl ?c0 ?c1 ?c2 ?c3 ?c4 ?c5 ?_) | go_in)
            case c0 => rw [symCells_length]; omega
            case c1 => exact liesS_add hla
            case c2 =>
              intro u hu
              obtain ⟨x, _, hx⟩ := List.mem_flatMap.1 hu
              simp at hx
              rcases hx with rfl | rfl <;> rfl
            case c3 => unfold maxLen; omega
            case c4 => omega
            case c5 => omega
            intro v' w1 hown' hgrow _
            have R := concatS_step hlt hbw hown hown' hgrow
            clear hown' hgrow hown hbw h1 hla
            go_wp2
            go_roundw
            case rel => exact ⟨m + 1, by omega, by go_num, R.1, R.2⟩
            case measure => simp [intOf]; omega
        · have HK : Hid (m = bl.length) := by have : m = bl.length := by omega
                                              exact this
          go_wp2
          go_ret
          refine ⟨_, rfl, ?_, hbw⟩
          have hk := HK.out
          subst hk
          unfold totS at hown
          rwa [List.take_of_length_le (by simp)] at hown

end Go.Proofs.YtkiejflgphjfjadDoor

/-
  Symbols of a cargo by their numbers, in memory: made, joined, decoded.
-/
namespace Go.Proofs.YtkiejflgphjfjadDoor
open Go.RowKit
set_option linter.unusedVariables false
set_option linter.unusedSimpArgs false

/-- two lists of symbols, joined -/
theorem concat2S (b m1 m2 mm c1 c2 : Nat) (a1 a2 : Option Addr) (l1 l2 : List MSym) (W : World) (hk : W.heap[b]? = some (.cells #[.slice a1 m1 c1, .slice a2 m2 c2] 31 (0, 0))) (h1 : Lies W a1 (symCells l1)) (h2 : Lies W a2 (symCells l2)) (e1 : l1.length = m1) (e2 : l2.length = m2) (he : m1 + m2 = mm) (hmm : mm ≤ 60) :
    Calls Tryd.prog 8 #[.slice (some ⟨b, 0, none⟩) 2 2] W fun e w' => ∃ (ga : Option Addr) (gc : Nat), e = .returned (.slice ga mm gc) ∧ Shut (Lies w' ga (symCells (l1 ++ l2))) ∧ Below W.heap.size W w' := by
  obtain ⟨y0, y1⟩ := cells2 hk
  have e3 : [SBlk.mk a1 c1 l1, SBlk.mk a2 c2 l2].map SBlk.val = [.slice a1 m1 c1, .slice a2 m2 c2] := by simp [SBlk.val, e1, e2]
  have e4 : ([SBlk.mk a1 c1 l1, SBlk.mk a2 c2 l2].map SBlk.l).flatten = l1 ++ l2 := by simp
  have e5 : (l1 ++ l2).length = mm := by rw [List.length_append, e1, e2, he]
  have h := concatS_any (some ⟨b, 0, none⟩) 2 [SBlk.mk a1 c1 l1, SBlk.mk a2 c2 l2] W (by simp [maxLen]) (by rw [e4, e5]; omega)
    (by
      rw [e3]
      refine Lies.mk fun kk hkk => ?_
      match kk, hkk with
      | 0, _ => simpa using y0
      | 1, _ => simpa using y1)
    (fun x hx => by
      simp at hx
      rcases hx with rfl | rfl
      · exact h1
      · exact h2)
  refine h.mono ?_
  rintro e w' ⟨v, rfl, ho, hb⟩
  rw [e4, e5] at ho
  obtain ⟨ga, gc, rfl, hga, _⟩ := own_syms ho
  exact ⟨ga, gc, rfl, ⟨hga⟩, hb⟩

/-- symbols of the cargo by these numbers, in memory -/
def SymsOf (W : World) (nb k : Nat) (c : List UInt8) (la : Option Addr) (l : List MSym) (ids : List Nat) : Prop :=
  Lies W la (symCells l) ∧ (∀ y ∈ l, SymIn W y) ∧ l.length = ids.length ∧ l.map MSym.says = ids.map (symOf nb k c)

theorem SymsOf.below {W W' : World} {nb k : Nat} {c : List UInt8} {la : Option Addr} {l : List MSym} {ids : List Nat} (h : SymsOf W nb k c la l ids) (hb : Below W.heap.size W W') : SymsOf W' nb k c la l ids :=
  ⟨h.1.below hb (Nat.le_refl _), fun y hy => (h.2.1 y hy).below hb, h.2.2⟩

theorem SymsOf.app {W : World} {nb k : Nat} {c : List UInt8} {la lb ga : Option Addr} {l l' : List MSym} {ids js : List Nat} (h : SymsOf W nb k c la l ids) (h' : SymsOf W nb k c lb l' js) (hg : Lies W ga (symCells (l ++ l'))) : SymsOf W nb k c ga (l ++ l') (ids ++ js) :=
  ⟨hg, fun y hy => by
    rcases List.mem_append.1 hy with h1 | h1
    · exact h.2.1 y h1
    · exact h'.2.1 y h1, by rw [List.length_append, List.length_append, h.2.2.1, h'.2.2.1], by rw [List.map_append, List.map_append, h.2.2.2, h'.2.2.2]⟩

/-- what Decode answers of them -/
theorem order_decode {n k nb q : Nat} {c : List UInt8} {la : Option Addr} (lc : Nat) {l : List MSym} {ids : List Nat} {W : World} (g : Good n k n k nb) (hc : c.length = n) (h : SymsOf W nb k c la l ids) (hi : ∀ i ∈ ids, i ≤ 9999) (hq : ids.length = q) (h60 : q ≤ 60) (hL : Laid W) :
    Calls Tryd.prog 10 #[.agg #[.int .i64 n, .int .i64 k], .slice la q lc] W fun e w' => ∃ (a' : Option Addr) (c' z : Nat), e = .returned (.tuple #[.slice a' z c', .int .i64 (decCode n k (ids.map (symOf nb k c)))]) ∧ Shut (∃ r : List UInt8, r.length = z ∧ z ≤ 360 ∧ Lies w' a' (bs r) ∧ (decCode n k (ids.map (symOf nb k c)) = 0 → r = c)) ∧ Below W.heap.size W w' := by
  have n2 := g.n2
  have k2 := g.k2
  have hD := decode_any n k la lc l W ⟨by omega, by omega⟩ ⟨by omega, by omega⟩ h.1 h.2.1 (by rw [h.2.2.1]; unfold maxLen; omega) hL
  have hlen := decRes_len n k (l.map MSym.says)
  rw [h.2.2.1, hq, h.2.2.2] at hD
  rw [h.2.2.2] at hlen
  refine hD.mono ?_
  rintro e w' ⟨a', c', rfl, hr, hb⟩
  refine ⟨a', c', _, rfl, ⟨_, rfl, ?_, hr, fun h0 => ?_⟩, hb⟩
  · simp only [Int.toNat_natCast] at hlen
    omega
  · exact (code_sub g hc hi hi (by omega) (by omega) (fun i hh => hh) h0).2

theorem order_symbols (n k nb m : Nat) (a : Option Addr) (cap : Nat) (c : List UInt8) (ia : Option Addr) (ic : Nat) (xs : List Int) (w : World) (g : Good n k n k nb) (hl : c.length = n) (hcap : n ≤ cap) (ha : Lies w a (bs c)) (hi : Lies w ia (xs.map (Value.int .i64))) (hix : ∀ x ∈ xs, I64 x) (hxm : xs.length = m) (hmm : m ≤ 60) (hic : m ≤ ic) (hic2 : ic ≤ maxLen) (hL : Laid w) :
    Calls Tryd.prog 6 #[.agg #[.int .i64 n, .int .i64 k], .slice a n cap, .slice ia m ic] w fun e w' =>
      ∃ (la : Option Addr) (lc : Nat) (l : List MSym), e = .returned (.slice la m lc) ∧ Shut (SymsOf w' nb k c la l (idsOf xs) ∧ ∀ a, la = some a → ∃ b o, a = ⟨b, o, none⟩) ∧ Below w.heap.size w w' := by
  have n2 := g.n2
  have k2 := g.k2
  have e1 : (idsOf xs).length = m := by rw [idsOf_length]; omega
  refine (symbols_good n k n k nb a cap c ia ic m xs w g ⟨by omega, by omega⟩ ⟨by omega, by omega⟩ hl hcap ha hi hix hxm (by unfold maxLen; omega) hic hic2 hL).mono ?_
  rintro e w' ⟨v, rfl, l, ho, hmp, hall, hb⟩
  have hA : ∀ a c n, v = .slice (some a) n c → ∃ b o, a = ⟨b, o, none⟩ := fun a c n hv => by
    rcases ho.2 with ⟨h, _⟩ | ⟨g', cap', cur, h, _⟩
    · rw [h] at hv; cases hv
    · rw [h] at hv; cases hv; exact ⟨_, _, rfl⟩
  obtain ⟨la, lc, rfl, hla, hml, _, _⟩ := own_syms ho
  refine ⟨la, lc, l, by rw [e1], ⟨⟨hla, fun y hy => (hall y hy).1, hml.symm, hmp⟩, ?_⟩, hb⟩
  intro a ha
  subst ha
  exact hA a _ _ rfl

end Go.Proofs.YtkiejflgphjfjadDoor
