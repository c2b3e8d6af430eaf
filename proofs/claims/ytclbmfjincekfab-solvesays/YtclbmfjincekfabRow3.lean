/-
  Systems in memory.
-/
import Derived.Test.YtclbmfjincekfabRow1
import Derived.Test.YtclbmfjincekfabEq
import Derived.Test.YtclbmfjincekfabEqB
import Derived.Test.YtclbmfjincekfabGen
import Derived.Deep.RegionHeld3
import Derived.Deep.CutBlock
import Derived.BigQuiet
namespace Go.Proofs.Ytclbmfjincekfab
open Go.RowKit
set_option linter.unusedVariables false
set_option linter.unusedSimpArgs false

/-- a system in memory -/
structure MSys where
  B : Int
  K : Int
  ra : Option Addr
  rc : Nat
  rows : List MRow

def SysIn (w : World) (s : MSys) : Prop := Lies w s.ra (rowCells s.rows) ∧ (∀ r ∈ s.rows, RowIn w r) ∧ s.rows.length ≤ maxLen

theorem SysIn.below {w w' : World} {s : MSys} (h : SysIn w s) (hb : Below w.heap.size w w') : SysIn w' s := ⟨h.1.below hb (Nat.le_refl _), fun r hr => (h.2.1 r hr).below hb, h.2.2⟩

/-- what a row says, wherever it lies -/
def MRow.says (r : MRow) : List Bool × List UInt8 := (r.h, r.d)

def sameSys (s t : MSys) : Prop := s.B = t.B ∧ s.K = t.K ∧ s.rows.map MRow.says = t.rows.map MRow.says

/-- the two cells of a row that stands in a list -/
theorem row_at {w : World} {b o : Nat} {l : List MRow} (h : Lies w (some ⟨b, o, none⟩) (rowCells l)) {j : Nat} (hj : j < l.length) : w.cell? ⟨b, o + j * 2, none⟩ = some l[j].hv ∧ w.cell? ⟨b, o + j * 2 + 1, none⟩ = some l[j].dv := by
  have h0 := h.at (rowCells_get hj).1
  have h1 := h.at (rowCells_get hj).2
  rw [Nat.mul_comm] at h0
  rw [Nat.mul_comm, ← Nat.add_assoc] at h1
  exact ⟨h0, h1⟩

theorem cellC {w w' : World} {b o : Nat} {v : Value} (h : w.cell? ⟨b, o, none⟩ = some v) (hb : Below w.heap.size w w') : w'.cell? ⟨b, o, none⟩ = some v := by
  have := World.block_lt_of_cell? w _ h
  rw [(bcell hb).1 b o this]
  exact h

set_option maxHeartbeats 1000000 in
theorem sameSystem_long (s t : MSys) (w : World) (hs : SysIn w s) (ht : SysIn w t) (h1 : s.B = t.B) (h2 : s.K = t.K) (h3 : s.rows.length = t.rows.length) :
    Calls Try.prog 12 #[.agg #[.int .i64 s.B, .int .i64 s.K, .slice s.ra s.rows.length s.rc], .agg #[.int .i64 t.B, .int .i64 t.K, .slice t.ra t.rows.length t.rc]] w fun e w' =>
      e = .returned (.bool (decide (s.rows.map MRow.says = t.rows.map MRow.says))) ∧ Below w.heap.size w w' := by
  obtain ⟨B, K, ra, rc, rows⟩ := s
  obtain ⟨B', K', ra', rc', rows'⟩ := t
  simp only at *
  subst h1 h2
  rw [← h3]
  have hmx := hs.2.2
  simp only at hmx
  unfold maxLen at hmx
  have HL := Shut.mk h3
  clear h3
  have b1 : (B != B) = false := by simp
  have b2 : (K != K) = false := by simp
  have b3 : ((rows.length : Int) != (rows.length : Int)) = false := by simp
  go_enter Try.func12, Try.ntmps12
  go_wp2
  obtain ⟨W0, hW0⟩ : ∃ W0, (w.alloc (.cells #[.int .i64 B, .int .i64 K, .slice ra rows.length rc] 24)).alloc (.cells #[.int .i64 B, .int .i64 K, .slice ra' rows.length rc'] 24) = W0 := ⟨_, rfl⟩
  have hB : Below w.heap.size w W0 := by rw [← hW0]; exact ((Below.refl _ _).alloc (Nat.le_refl _) _).alloc (by simp) _
  have t2 : W0.cell? ⟨w.heap.size + 1, 2, none⟩ = some (.slice ra' rows.length rc') := by
    rw [← hW0]
    have e : ((w.alloc (.cells #[.int .i64 B, .int .i64 K, .slice ra rows.length rc] 24)).alloc (.cells #[.int .i64 B, .int .i64 K, .slice ra' rows.length rc'] 24)).heap[w.heap.size + 1]? = some (.cells #[.int .i64 B, .int .i64 K, .slice ra' rows.length rc'] 24 (0, 0)) := by rw [heap_alloc_eq, if_pos (by simp)]
    simp only [World.cell?, e]
    simp
  rw [hW0]
  clear hW0
  replace hs := hs.below hB
  replace ht := ht.below hB
  obtain ⟨hs1, hs2, _⟩ := hs
  obtain ⟨ht1, ht2, _⟩ := ht
  simp only at hs1 hs2 ht1 ht2
  go_loopw [31] (fun m wr => ∃ q : Nat, q ≤ rows.length ∧ m = .int .i64 q ∧ Shut ((rows.map MRow.says).take q = (rows'.map MRow.says).take q) ∧ Below W0.heap.size W0 wr) (fun m _ => rows.length - (intOf m).toNat)
  case atStart => exact ⟨0, Nat.zero_le _, rfl, ⟨rfl⟩, Below.refl _ _⟩
  case round =>
    obtain ⟨q, hq, rfl, HE, hbr⟩ := hrel
    by_cases hlt : q < rows.length
    · have hlt' : q < rows'.length := by rw [← HL.out]; exact hlt
      obtain ⟨ab, ao, rfl⟩ := hs1.some (k := 2 * q) (by rw [rowCells_length]; omega)
      obtain ⟨bb, bo, rfl⟩ := ht1.some (k := 2 * q) (by rw [rowCells_length]; omega)
      obtain ⟨a0, a1⟩ := row_at (hs1.below hbr (Nat.le_refl _)) hlt
      obtain ⟨c0, c1⟩ := row_at (ht1.below hbr (Nat.le_refl _)) hlt'
      have rA := (hs2 _ (List.getElem_mem hlt)).below hbr
      have rB := (ht2 _ (List.getElem_mem hlt')).below hbr
      have HN : Shut (rows[q].says = rows'[q].says → (rows.map MRow.says).take (q + 1) = (rows'.map MRow.says).take (q + 1)) := ⟨fun e => by
        rw [List.take_succ_eq_append_getElem (by simpa using hlt), List.take_succ_eq_append_getElem (by simpa using hlt'), HE.out]
        simp [e]⟩
      have HD : Shut (rows[q].says ≠ rows'[q].says → ¬ rows.map MRow.says = rows'.map MRow.says) := ⟨fun hne e => hne (by
        have := congrArg (fun x => x[q]?) e
        simpa [hlt, hlt'] using this)⟩
      generalize rows[q]'hlt = R at *
      generalize rows'[q]'hlt' = T at *
      obtain ⟨ha, hc, rh, da, dc, rd⟩ := R
      obtain ⟨ha', hc', sh, da', dc', sd⟩ := T
      simp only [MRow.hv, MRow.dv, MRow.says] at *
      have u2 := cellC t2 hbr
      go_upto_region 6 with fail
      have bd : Below wr.heap.size wr (wr.alloc (.cells #[.slice ha rh.length hc, .slice da rd.length dc] 29)) := (Below.refl _ _).alloc (Nat.le_refl _) _
      have v0 : (wr.alloc (.cells #[.slice ha rh.length hc, .slice da rd.length dc] 29)).cell? ⟨wr.heap.size, 0, none⟩ = some (.slice ha rh.length hc) := (Lies.alloc_new wr #[.slice ha rh.length hc, .slice da rd.length dc] 29).at (k := 0) rfl
      have v1 : (wr.alloc (.cells #[.slice ha rh.length hc, .slice da rd.length dc] 29)).cell? ⟨wr.heap.size, 1, none⟩ = some (.slice da rd.length dc) := (Lies.alloc_new wr #[.slice ha rh.length hc, .slice da rd.length dc] 29).at (k := 1) rfl
      replace c0 := cellC c0 bd
      replace c1 := cellC c1 bd
      replace u2 := cellC u2 bd
      replace rA := rA.below bd
      replace rB := rB.below bd
      have hbw := hbr.trans (bd.mono hbr.size)
      clear hbr bd a0 a1 hs1 ht1 hs2 ht2 t2
      obtain ⟨w2, hw2⟩ : ∃ w2, wr.alloc (.cells #[.slice ha rh.length hc, .slice da rd.length dc] 29) = w2 := ⟨_, rfl⟩
      rw [hw2] at v0 v1 c0 c1 u2 rA rB hbw ⊢
      obtain ⟨gr, hgr⟩ : ∃ gr, wr.heap.size = gr := ⟨_, rfl⟩
      rw [hgr] at v0 v1 ⊢
      clear hw2 hgr
      have hE : ∀ n, Calls Try.prog 31 #[.slice ha rh.length hc, .slice ha' sh.length hc'] (w2.drewN n) fun e w' => e = .returned (.bool (decide (rh = sh))) ∧ ∃ m, w' = (w2.drewN n).drewN m := fun n => equalBools (w := w2.drewN n) ha ha' hc hc' rh sh rA.2.2.1 rB.2.2.1 (rA.1.drewN n) (rB.1.drewN n)
      have hE2 : ∀ n, Calls Try.prog 17 #[.slice da rd.length dc, .slice da' sd.length dc'] (w2.drewN n) fun e w' => e = .returned (.bool (decide (rd = sd))) ∧ ∃ m, w' = (w2.drewN n).drewN m := fun n => equalBlock (w := w2.drewN n) da da' dc dc' rd sd rA.2.2.2 rB.2.2.2 (rA.2.1.drewN n) (rB.2.1.drewN n)
      have hbF : ∀ n, Below W0.heap.size W0 (w2.drewN n) := fun n => hbw.trans (bdn _ _ _)
      clear hbw
      by_cases e1 : rh = sh
      · simp only [decide_eq_true e1] at hE
        have E1 := Shut.mk e1
        by_cases e2 : rd = sd
        · simp only [decide_eq_true e2] at hE2
          have HN2 := Shut.mk (HN.out (by rw [E1.out, e2]))
          clear e1 e2 HN HD rA rB
          go_quiet (first | (go_at_call 31; exact Calls.quiet_of (hE _)) | (go_at_call 17; exact Calls.quiet_of (hE2 _)))
          replace hbF := hbF nq
          clear v0 v1 c0 c1 u2 hE hE2
          generalize w2.drewN nq = w5 at *
          go_wp2
          exact ⟨⟨q + 1, by omega, by go_num, HN2, hbF⟩, by simp [intOf]; omega⟩
        · simp only [decide_eq_false e2] at hE2
          have HF := Shut.mk (HD.out (by intro e; exact e2 (Prod.mk.inj e).2))
          clear e1 e2 HN HD rA rB
          go_quiet (first | (go_at_call 31; exact Calls.quiet_of (hE _)) | (go_at_call 17; exact Calls.quiet_of (hE2 _)))
          replace hbF := hbF nq
          clear v0 v1 c0 c1 u2 hE hE2
          generalize w2.drewN nq = w5 at *
          go_wp2
          go_ret
          exact ⟨congrArg (fun b => Ending.returned (.bool b)) (decide_eq_false HF.out).symm, hB.trans (hbF.mono hB.size)⟩
      · have HF := Shut.mk (HD.out (by intro e; exact e1 (Prod.mk.inj e).1))
        simp only [decide_eq_false e1] at hE
        clear e1 HN HD rA rB hE2
        go_quiet (first | (go_at_call 31; exact Calls.quiet_of (hE _)))
        replace hbF := hbF nq
        clear v0 v1 c0 c1 u2 hE
        generalize w2.drewN nq = w5 at *
        go_wp2
        go_ret
        exact ⟨congrArg (fun b => Ending.returned (.bool b)) (decide_eq_false HF.out).symm, hB.trans (hbF.mono hB.size)⟩
    · have HX : Shut (rows.map MRow.says = rows'.map MRow.says) := ⟨by
        have h := HE.out
        rwa [List.take_of_length_le (by simp; omega), List.take_of_length_le (by simp [← HL.out]; omega)] at h⟩
      clear hs1 hs2 ht1 ht2 HE
      go_wp2
      go_ret
      exact ⟨congrArg (fun b => Ending.returned (.bool b)) (decide_eq_true HX.out).symm, hB.trans (hbr.mono hB.size)⟩

/-- alike in all fields -/
theorem sameSystem_any (s t : MSys) (w : World) (hs : SysIn w s) (ht : SysIn w t) :
    Calls Try.prog 12 #[.agg #[.int .i64 s.B, .int .i64 s.K, .slice s.ra s.rows.length s.rc], .agg #[.int .i64 t.B, .int .i64 t.K, .slice t.ra t.rows.length t.rc]] w fun e w' =>
      e = .returned (.bool (decide (s.B = t.B ∧ s.K = t.K ∧ s.rows.map MRow.says = t.rows.map MRow.says))) ∧ Below w.heap.size w w' := by
  by_cases h1 : s.B = t.B
  · by_cases h2 : s.K = t.K
    · by_cases h3 : s.rows.length = t.rows.length
      · refine (sameSystem_long s t w hs ht h1 h2 h3).mono ?_
        rintro e w' ⟨rfl, hb⟩
        refine ⟨ret_bool ?_, hb⟩
        simp only [h1, h2, true_and]
      · rw [show decide (s.B = t.B ∧ s.K = t.K ∧ s.rows.map MRow.says = t.rows.map MRow.says) = false from decide_eq_false fun hh => h3 (by have := congrArg List.length hh.2.2; simpa using this)]
        obtain ⟨B, K, ra, rc, rows⟩ := s
        obtain ⟨B', K', ra', rc', rows'⟩ := t
        simp only at *
        subst h1 h2
        have hb : Below w.heap.size w ((w.alloc (.cells #[.int .i64 B, .int .i64 K, .slice ra rows.length rc] 24)).alloc (.cells #[.int .i64 B, .int .i64 K, .slice ra' rows'.length rc'] 24)) := ((Below.refl _ _).alloc (Nat.le_refl _) _).alloc (by simp) _
        have b1 : (B != B) = false := by simp
        have b2 : (K != K) = false := by simp
        have b3 : ((rows.length : Int) != (rows'.length : Int)) = true := by simp; omega
        clear hs ht h3
        go_enter Try.func12, Try.ntmps12
        go_wp2
        go_ret
        exact ⟨rfl, hb⟩
    · rw [show decide (s.B = t.B ∧ s.K = t.K ∧ s.rows.map MRow.says = t.rows.map MRow.says) = false from decide_eq_false fun hh => h2 hh.2.1]
      obtain ⟨B, K, ra, rc, rows⟩ := s
      obtain ⟨B', K', ra', rc', rows'⟩ := t
      simp only at *
      subst h1
      have hb : Below w.heap.size w ((w.alloc (.cells #[.int .i64 B, .int .i64 K, .slice ra rows.length rc] 24)).alloc (.cells #[.int .i64 B, .int .i64 K', .slice ra' rows'.length rc'] 24)) := ((Below.refl _ _).alloc (Nat.le_refl _) _).alloc (by simp) _
      have b1 : (B != B) = false := by simp
      have b2 : (K != K') = true := by simpa using h2
      clear hs ht h2
      go_enter Try.func12, Try.ntmps12
      go_wp2
      go_ret
      exact ⟨rfl, hb⟩
  · rw [show decide (s.B = t.B ∧ s.K = t.K ∧ s.rows.map MRow.says = t.rows.map MRow.says) = false from decide_eq_false fun hh => h1 hh.1]
    obtain ⟨B, K, ra, rc, rows⟩ := s
    obtain ⟨B', K', ra', rc', rows'⟩ := t
    simp only at *
    have hb : Below w.heap.size w ((w.alloc (.cells #[.int .i64 B, .int .i64 K, .slice ra rows.length rc] 24)).alloc (.cells #[.int .i64 B', .int .i64 K', .slice ra' rows'.length rc'] 24)) := ((Below.refl _ _).alloc (Nat.le_refl _) _).alloc (by simp) _
    have b1 : (B != B') = true := by simpa using h1
    clear hs ht h1
    go_enter Try.func12, Try.ntmps12
    go_wp2
    go_ret
    exact ⟨rfl, hb⟩

end Go.Proofs.Ytclbmfjincekfab
