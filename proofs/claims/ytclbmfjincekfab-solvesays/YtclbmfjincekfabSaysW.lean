/-
  SolveSays: the walk.
-/
import Derived.Test.YtclbmfjincekfabSlvE
import Derived.Test.YtclbmfjincekfabRow9
import Derived.Test.YtclbmfjincekfabEqF
namespace Go.Proofs.Ytclbmfjincekfab
open Go.RowKit
set_option linter.unusedVariables false
set_option linter.unusedSimpArgs false

/-- a call that answers a system, a bool and a code -/
def SysCall (f : FuncId) (args : Array Value) (w : World) (more : Bool) (c : Int) (tB tK : Int) (T : List LRow) : Prop :=
  ∀ W, Below w.heap.size w W → Calls Try.prog f args W fun e w' => ∃ (a : Option Addr) (rc : Nat) (rows : List MRow), e = .returned (.tuple #[.agg #[.int .i64 tB, .int .i64 tK, .slice a rows.length rc], .bool more, .int .i64 c]) ∧ SysIn w' ⟨tB, tK, a, rc, rows⟩ ∧ rows.map MRow.says = T ∧ Below W.heap.size W w'

/-- a call that answers blocks and a code -/
def KnownCall (args : Array Value) (w : World) (c : Int) (L : List (List UInt8)) : Prop :=
  ∀ W, Below w.heap.size w W → Calls Try.prog 7 args W fun e w' => ∃ (a : Option Addr) (rc : Nat) (bl : List Blk), e = .returned (.tuple #[.slice a bl.length rc, .int .i64 c]) ∧ Lies w' a (bl.map Blk.val) ∧ AllIn w' bl ∧ bl.map Blk.l = L ∧ Below W.heap.size W w'

/-- a call that answers blocks -/
def BlocksCall (args : Array Value) (w : World) (L : List (List UInt8)) : Prop :=
  ∀ W, Below w.heap.size w W → Calls Try.prog 15 args W fun e w' => ∃ (a : Option Addr) (rc : Nat) (bl : List Blk), e = .returned (.slice a bl.length rc) ∧ Lies w' a (bl.map Blk.val) ∧ AllIn w' bl ∧ bl.map Blk.l = L ∧ Below W.heap.size W w'

def Boxes (W : World) (b : Nat) (s r t : Array Value) : Prop :=
  W.heap[b]? = some (.cells s 24 (0, 0)) ∧ W.heap[b + 1]? = some (.cells r 29 (0, 0)) ∧ W.heap[b + 2]? = some (.cells t 24 (0, 0))

theorem Boxes.below {W W' : World} {b : Nat} {s r t : Array Value} (h : Boxes W b s r t) (hb : Below W.heap.size W W') : Boxes W' b s r t := ⟨blk_below h.1 hb, blk_below h.2.1 hb, blk_below h.2.2 hb⟩

theorem solveSays1 (a b : Option Addr) (ca cb : Nat) (xs ys : List UInt8) (w : World) (hx : xs.length ≤ maxLen) (hy : ys.length ≤ maxLen) (ha : Lies w a (bs xs)) (hb : Lies w b (bs ys)) :
    Calls Try.prog 16 #[.slice a xs.length ca, .slice b ys.length cb] w fun e w' => e = .returned (.bool (decide (xs = ys))) ∧ ∃ n, w' = w.drewN n := by
  go_enter Try.func16, Try.ntmps16
  go_wp2_with fail
  refine (equalBlock a b ca cb xs ys hx hy ha hb).mono ?_
  rintro e w1 ⟨rfl, n, rfl⟩
  go_wp2
  go_ret
  exact ⟨rfl, _, rfl⟩

theorem entersSays1 : ∀ args w, (callFunc 16 args).run Try.prog w = .ok (.enter 16 args) w := enters_of Try.func16 (by kernel_rfl) rfl

set_option maxHeartbeats 4000000 in
set_option maxRecDepth 8000 in
theorem says_walk (s t : MSys) (r : MRow) (many long : Int) (w : World) (hs : SysIn w s) (ht : SysIn w t) (hr : RowIn w r) (q : Int) (hq : chkSys s.B s.K (s.rows.map MRow.says) = q) (more : Bool) (f tB tK : Int) (T : List LRow) (L : List (List UInt8))
    (hA : SysCall 6 #[.agg #[.int .i64 s.B, .int .i64 s.K, .slice s.ra s.rows.length s.rc], .agg #[r.hv, r.dv]] w more f tB tK T) (hK : KnownCall #[.agg #[.int .i64 s.B, .int .i64 s.K, .slice s.ra s.rows.length s.rc]] w q L)
    (hE : q ≠ 0 ∧ f = q ∧ more = false ∧ L = [] ∧ tB = 0 ∧ tK = 0 ∧ T = [] ∨
      q = 0 ∧ SysCall 13 #[.agg #[.int .i64 s.B, .int .i64 s.K, .slice s.ra s.rows.length s.rc], .agg #[r.hv, r.dv]] w more f tB tK T ∧ BlocksCall #[.agg #[.int .i64 s.B, .int .i64 s.K, .slice s.ra s.rows.length s.rc]] w L ∧ L.length ≤ 24) :
    Calls Try.prog 3 #[.agg #[.int .i64 s.B, .int .i64 s.K, .slice s.ra s.rows.length s.rc], .agg #[r.hv, r.dv], .agg #[.int .i64 t.B, .int .i64 t.K, .slice t.ra t.rows.length t.rc], .int .i64 many, .int .i64 long] w fun e w' => e = .returned (.bool true) ∧ Below w.heap.size w w' := by
  obtain ⟨blk0, blk1, blk2⟩ := alloc3' w (.cells #[.int .i64 s.B, .int .i64 s.K, .slice s.ra s.rows.length s.rc] 24) (.cells #[r.hv, r.dv] 29) (.cells #[.int .i64 t.B, .int .i64 t.K, .slice t.ra t.rows.length t.rc] 24)
  obtain ⟨W, hW⟩ : ∃ W, ((w.alloc (.cells #[.int .i64 s.B, .int .i64 s.K, .slice s.ra s.rows.length s.rc] 24)).alloc (.cells #[r.hv, r.dv] 29)).alloc (.cells #[.int .i64 t.B, .int .i64 t.K, .slice t.ra t.rows.length t.rc] 24) = W := ⟨_, rfl⟩
  have hB : Below w.heap.size w W := by rw [← hW]; exact (((Below.refl _ _).alloc (Nat.le_refl _) _).alloc (by simp) _).alloc (by simp; omega) _
  rw [hW] at blk0 blk1 blk2
  have HX : Shut (Boxes W w.heap.size #[.int .i64 s.B, .int .i64 s.K, .slice s.ra s.rows.length s.rc] #[r.hv, r.dv] #[.int .i64 t.B, .int .i64 t.K, .slice t.ra t.rows.length t.rc]) := ⟨blk0, blk1, blk2⟩
  have HI := Shut.mk (And.intro hs (And.intro ht hr))
  have HQ := Shut.mk hq
  have HE := Shut.mk hE
  have HA := Shut.mk hA
  have HK := Shut.mk hK
  have HW := Shut.mk hW
  obtain ⟨v, hv⟩ : ∃ v, v = if chkSys many long [] = 0 then Value.agg #[.int .i64 many, .int .i64 long, .slice none 0 0] else .agg #[.int .i64 0, .int .i64 0, .slice none 0 0] := ⟨_, rfl⟩
  obtain ⟨q2, hq2⟩ : ∃ q2, chkSys many long [] = q2 := ⟨_, rfl⟩
  obtain ⟨nB, nK, hnn, hnv⟩ : ∃ nB nK : Int, (q2 = 0 ∧ nB = many ∧ nK = long ∨ q2 ≠ 0 ∧ nB = 0 ∧ nK = 0) ∧ v = .agg #[.int .i64 nB, .int .i64 nK, .slice none 0 0] := by
    rw [hv, hq2]
    by_cases h : q2 = 0
    · exact ⟨many, long, .inl ⟨h, rfl, rfl⟩, by rw [if_pos h]⟩
    · exact ⟨0, 0, .inr ⟨h, rfl, rfl⟩, by rw [if_neg h]⟩
  have hN := new_any many long W _ hv
  rw [hq2, hnv] at hN
  have HNN := Shut.mk hnn
  have HQ2 := Shut.mk hq2
  clear hs ht hr hq hA hK hE blk0 blk1 blk2 hW hv hnv hnn hq2
  obtain ⟨B, K, ra, rc, rows⟩ := s
  obtain ⟨B', K', ra', rc', rows'⟩ := t
  obtain ⟨rha, rhc, rh, rda, rdc, rd⟩ := r
  simp only [MRow.hv, MRow.dv] at *
  go_enter Try.func3, Try.ntmps3
  go_wp2_with fail
  rw [HW.out]
  refine hN.mono ?_
  rintro e w1 ⟨rfl, d1⟩
  have d2 : Below W.heap.size W (w1.alloc (.cells #[.int .i64 nB, .int .i64 nK, .slice none 0 0] 24)) := d1.alloc d1.size _
  replace HX := Shut.mk (HX.out.below d2)
  have HNB : Shut ((w1.alloc (.cells #[.int .i64 nB, .int .i64 nK, .slice none 0 0] 24)).heap[w1.heap.size]? = some (.cells #[.int .i64 nB, .int .i64 nK, .slice none 0 0] 24 (0, 0))) := ⟨by rw [heap_alloc_eq, if_pos rfl]⟩
  replace hB := hB.trans (d2.mono hB.size)
  clear hN d1 d2 HW
  go_upto_region 2 with fail
  generalize w1.alloc (.cells #[.int .i64 nB, .int .i64 nK, .slice none 0 0] 24) = w2 at *
  generalize w1.heap.size = nb at *
  have s0 := cell_blk HX.out.1 0
  have s1 := cell_blk HX.out.1 1
  have s2 := cell_blk HX.out.1 2
  have r0 := cell_blk HX.out.2.1 0
  have r1 := cell_blk HX.out.2.1 1
  simp at s0 s1 s2 r0 r1
  have hA2 := HA.out w2 hB
  go_wp2_with fail
  refine hA2.mono ?_
  rintro e w3 ⟨aa, ac, arows, rfl, hS3, hT3, d3⟩
  have HAL := Shut.mk (And.intro hS3 hT3)
  obtain ⟨am, ham⟩ : ∃ am, arows.length = am := ⟨_, rfl⟩
  have HAM := Shut.mk ham
  rw [ham]
  have bA : Below w3.heap.size w3 (w3.alloc (.cells #[.int .i64 tB, .int .i64 tK, .slice aa am ac] 24)) := (Below.refl _ _).alloc (Nat.le_refl _) _
  have d4 := d3.trans (bA.mono d3.size)
  replace HX := Shut.mk (HX.out.below d4)
  replace HNB := Shut.mk (blk_below HNB.out d4)
  replace HAL : Shut (SysIn (w3.alloc (.cells #[.int .i64 tB, .int .i64 tK, .slice aa am ac] 24)) ⟨tB, tK, aa, ac, arows⟩ ∧ arows.map MRow.says = T) := ⟨HAL.out.1.below bA, HAL.out.2⟩
  have HAB : Shut ((w3.alloc (.cells #[.int .i64 tB, .int .i64 tK, .slice aa am ac] 24)).heap[w3.heap.size]? = some (.cells #[.int .i64 tB, .int .i64 tK, .slice aa am ac] 24 (0, 0))) := ⟨by rw [heap_alloc_eq, if_pos rfl]⟩
  replace hB := hB.trans (d4.mono hB.size)
  clear hA2 hS3 hT3 d3 d4 bA s0 s1 s2 r0 r1 ham
  go_upto_region 3 with fail
  generalize w3.alloc (.cells #[.int .i64 tB, .int .i64 tK, .slice aa am ac] 24) = w4 at *
  generalize w3.heap.size = ab at *
  have s0 := cell_blk HX.out.1 0
  have s1 := cell_blk HX.out.1 1
  have s2 := cell_blk HX.out.1 2
  simp at s0 s1 s2
  have hK4 := HK.out w4 hB
  go_wp2_with fail
  refine hK4.mono ?_
  rintro e w5 ⟨la, lc, bl, rfl, hl5, hin5, hbl5, d5⟩
  obtain ⟨lm, hlm⟩ : ∃ lm, bl.length = lm := ⟨_, rfl⟩
  rw [hlm]
  have HL : Shut (bl.length = lm ∧ Lies w5 la (bl.map Blk.val) ∧ AllIn w5 bl ∧ bl.map Blk.l = L) := ⟨hlm, hl5, hin5, hbl5⟩
  replace HX := Shut.mk (HX.out.below d5)
  replace HNB := Shut.mk (blk_below HNB.out d5)
  replace HAB := Shut.mk (blk_below HAB.out d5)
  replace HAL : Shut (SysIn w5 ⟨tB, tK, aa, ac, arows⟩ ∧ arows.map MRow.says = T) := ⟨HAL.out.1.below d5, HAL.out.2⟩
  replace hB := hB.trans (d5.mono hB.size)
  clear hK4 hl5 hin5 hbl5 hlm d5 s0 s1 s2
  have s0 := cell_blk HX.out.1 0
  have s1 := cell_blk HX.out.1 1
  have s2 := cell_blk HX.out.1 2
  simp at s0 s1 s2
  have hC5 := checkSystem_any ⟨B, K, ra, rc, rows⟩ w5 (HI.out.1.below hB)
  simp only [HQ.out] at hC5
  go_wp2_with fail
  refine hC5.mono ?_
  rintro e w6 ⟨rfl, d6⟩
  replace HX := Shut.mk (HX.out.below d6)
  replace HNB := Shut.mk (blk_below HNB.out d6)
  replace HAB := Shut.mk (blk_below HAB.out d6)
  replace HAL : Shut (SysIn w6 ⟨tB, tK, aa, ac, arows⟩ ∧ arows.map MRow.says = T) := ⟨HAL.out.1.below d6, HAL.out.2⟩
  replace HL : Shut (bl.length = lm ∧ Lies w6 la (bl.map Blk.val) ∧ AllIn w6 bl ∧ bl.map Blk.l = L) := ⟨HL.out.1, HL.out.2.1.below d6 (Nat.le_refl _), HL.out.2.2.1.below d6, HL.out.2.2.2⟩
  replace hB := hB.trans (d6.mono hB.size)
  clear hC5 d6 s0 s1 s2
  have d7 : Below w6.heap.size w6 (w6.alloc (.cells #[.int .i64 many, .int .i64 long, .slice none 0 0] 24)) := (Below.refl _ _).alloc (Nat.le_refl _) _
  have HFB : Shut ((w6.alloc (.cells #[.int .i64 many, .int .i64 long, .slice none 0 0] 24)).heap[w6.heap.size]? = some (.cells #[.int .i64 many, .int .i64 long, .slice none 0 0] 24 (0, 0))) := ⟨by rw [heap_alloc_eq, if_pos rfl]⟩
  go_upto_region 6 with fail
  generalize w6.alloc (.cells #[.int .i64 many, .int .i64 long, .slice none 0 0] 24) = w7 at *
  have z0 := cell_blk HFB.out 0
  have z1 := cell_blk HFB.out 1
  have z2 := cell_blk HFB.out 2
  simp at z0 z1 z2
  have hC7 := checkSystem_any ⟨many, long, none, 0, []⟩ w7 (empty_in w7 many long)
  simp only [List.map_nil, List.length_nil, HQ2.out] at hC7
  go_wp2_with fail
  refine hC7.mono ?_
  rintro e w8 ⟨rfl, d8⟩
  replace HFB := Shut.mk (blk_below HFB.out d8)
  replace d7 := d7.trans (d8.mono d7.size)
  clear hC7 d8 z0 z1 z2
  have hcase : (q2 = 0 ∧ nB = many ∧ nK = long) ∨ (q2 ≠ 0 ∧ nB = 0 ∧ nK = 0) := HNN.out
  rcases hcase with ⟨h1, h2, h3⟩ | ⟨h1, h2, h3⟩
  case' inl =>
    have hz : (q2 != 0) = false := by simp [h1]
    have HF9 : Shut (w8.heap[w6.heap.size]? = some (.cells #[.int .i64 nB, .int .i64 nK, .slice none 0 0] 24 (0, 0))) := ⟨by rw [h2, h3]; exact HFB.out⟩
    clear h1 h2 h3 HFB
    go_upto_region 9 with fail
    generalize w8 = w9 at *
  case' inr =>
    have hz : (q2 != 0) = true := by simpa using h1
    have z0 := cell_blk HFB.out 0
    have z1 := cell_blk HFB.out 1
    have z2 := cell_blk HFB.out 2
    simp at z0 z1 z2
    have f0 := frozen_blk HFB.out 0
    have f1 := frozen_blk HFB.out 1
    have f2 := frozen_blk HFB.out 2
    have HF9 : Shut ((((w8.setCell ⟨w6.heap.size, 0, none⟩ (.int .i64 0)).setCell ⟨w6.heap.size, 1, none⟩ (.int .i64 0)).setCell ⟨w6.heap.size, 2, none⟩ (.slice none 0 0)).heap[w6.heap.size]? = some (.cells #[.int .i64 nB, .int .i64 nK, .slice none 0 0] 24 (0, 0))) := ⟨by
      rw [heap_set (o := 2) (heap_set (o := 1) (heap_set (o := 0) HFB.out)), h2, h3]
      simp⟩
    replace d7 := ((d7.setCell (p := ⟨w6.heap.size, 0, none⟩) (by simp) (.int .i64 0)).setCell (p := ⟨w6.heap.size, 1, none⟩) (by simp) (.int .i64 0)).setCell (p := ⟨w6.heap.size, 2, none⟩) (by simp) (.slice none 0 0)
    clear h1 h2 h3 HFB
    go_upto_region 9 with fail
    clear z0 z1 z2 f0 f1 f2
    generalize ((w8.setCell ⟨w6.heap.size, 0, none⟩ (.int .i64 0)).setCell ⟨w6.heap.size, 1, none⟩ (.int .i64 0)).setCell ⟨w6.heap.size, 2, none⟩ (.slice none 0 0) = w9 at *
  all_goals
    clear hz
    replace HX := Shut.mk (HX.out.below d7)
    replace HNB := Shut.mk (blk_below HNB.out d7)
    replace HAB := Shut.mk (blk_below HAB.out d7)
    replace HAL : Shut (SysIn w9 ⟨tB, tK, aa, ac, arows⟩ ∧ arows.map MRow.says = T) := ⟨HAL.out.1.below d7, HAL.out.2⟩
    replace HL : Shut (bl.length = lm ∧ Lies w9 la (bl.map Blk.val) ∧ AllIn w9 bl ∧ bl.map Blk.l = L) := ⟨HL.out.1, HL.out.2.1.below d7 (Nat.le_refl _), HL.out.2.2.1.below d7, HL.out.2.2.2⟩
    replace hB := hB.trans (d7.mono hB.size)
    clear d7
    have s0 := cell_blk HX.out.1 0
    have s1 := cell_blk HX.out.1 1
    have s2 := cell_blk HX.out.1 2
    have t0 := cell_blk HX.out.2.2 0
    have t1 := cell_blk HX.out.2.2 1
    have t2 := cell_blk HX.out.2.2 2
    have m0 := cell_blk HNB.out 0
    have m1 := cell_blk HNB.out 1
    have m2 := cell_blk HNB.out 2
    have g0 := cell_blk HF9.out 0
    have g1 := cell_blk HF9.out 1
    have g2 := cell_blk HF9.out 2
    simp at s0 s1 s2 t0 t1 t2 m0 m1 m2 g0 g1 g2
    obtain ⟨dd, hdd⟩ : ∃ dd, decide (B = B' ∧ K = K' ∧ rows.map MRow.says = rows'.map MRow.says) = dd := ⟨_, rfl⟩
    have hSo : ∀ u : Above w9, Calls Try.prog 9 #[] u.w fun e w' => e = .returned (.bool true) ∧ Below u.w.heap.size u.w w' := fun u => solved_any u.w
    have hCk : ∀ u : Above w9, Calls Try.prog 10 #[.agg #[.int .i64 B, .int .i64 K, .slice ra rows.length rc]] u.w fun e w' => e = .returned (.int .i64 q) ∧ Below u.w.heap.size u.w w' := fun u => by
      have h := checkS_any ⟨B, K, ra, rc, rows⟩ u.w ((HI.out.1.below hB).below u.below)
      simp only [HQ.out] at h
      exact h
    have hSm : ∀ u : Above w9, Calls Try.prog 11 #[.agg #[.int .i64 B, .int .i64 K, .slice ra rows.length rc], .agg #[.int .i64 B', .int .i64 K', .slice ra' rows'.length rc']] u.w fun e w' => e = .returned (.bool dd) ∧ Below u.w.heap.size u.w w' := fun u => by
      have h := sysSame_any ⟨B, K, ra, rc, rows⟩ ⟨B', K', ra', rc', rows'⟩ u.w ((HI.out.1.below hB).below u.below) ((HI.out.2.1.below hB).below u.below)
      simp only [hdd] at h
      exact h
    have hSr : ∀ u : Above w9, Calls Try.prog 12 #[.agg #[.int .i64 B, .int .i64 K, .slice ra rows.length rc], .agg #[.int .i64 B', .int .i64 K', .slice ra' rows'.length rc']] u.w fun e w' => e = .returned (.bool dd) ∧ Below u.w.heap.size u.w w' := fun u => by
      have h := sameSystem_any ⟨B, K, ra, rc, rows⟩ ⟨B', K', ra', rc', rows'⟩ u.w ((HI.out.1.below hB).below u.below) ((HI.out.2.1.below hB).below u.below)
      simp only [hdd] at h
      exact h
    have hSn : ∀ u : Above w9, Calls Try.prog 12 #[.agg #[.int .i64 nB, .int .i64 nK, .slice none 0 0], .agg #[.int .i64 nB, .int .i64 nK, .slice none 0 0]] u.w fun e w' => e = .returned (.bool true) ∧ Below u.w.heap.size u.w w' := fun u => by
      have h := sameSystem_any ⟨nB, nK, none, 0, []⟩ ⟨nB, nK, none, 0, []⟩ u.w (empty_in u.w nB nK) (empty_in u.w nB nK)
      simp only [and_self, decide_true, List.length_nil] at h
      exact h
    replace s0 : ∀ u : Above w9, u.w.cell? _ = _ := fun u => u.cell s0
    replace s1 : ∀ u : Above w9, u.w.cell? _ = _ := fun u => u.cell s1
    replace s2 : ∀ u : Above w9, u.w.cell? _ = _ := fun u => u.cell s2
    replace t0 : ∀ u : Above w9, u.w.cell? _ = _ := fun u => u.cell t0
    replace t1 : ∀ u : Above w9, u.w.cell? _ = _ := fun u => u.cell t1
    replace t2 : ∀ u : Above w9, u.w.cell? _ = _ := fun u => u.cell t2
    replace m0 : ∀ u : Above w9, u.w.cell? _ = _ := fun u => u.cell m0
    replace m1 : ∀ u : Above w9, u.w.cell? _ = _ := fun u => u.cell m1
    replace m2 : ∀ u : Above w9, u.w.cell? _ = _ := fun u => u.cell m2
    replace g0 : ∀ u : Above w9, u.w.cell? _ = _ := fun u => u.cell g0
    replace g1 : ∀ u : Above w9, u.w.cell? _ = _ := fun u => u.cell g1
    replace g2 : ∀ u : Above w9, u.w.cell? _ = _ := fun u => u.cell g2
    have ne : Nonempty (Above w9) := ⟨Above.start w9⟩
    have e1 : (q != q) = false := by simp
    have e2 : (q2 != q2) = false := by simp
    have e3 : (dd != dd) = false := by simp
    clear hdd
    refine wp_region_above (by kernel_rfl) (by kernel_rfl) ?_
    repeat (go_big_quiet_step (first | (go_at_call 9; exact Calls.above (hSo _)) | (go_at_call 10; exact Calls.above (hCk _)) | (go_at_call 11; exact Calls.above (hSm _)) | (go_at_call 12; first | with_reducible exact Calls.above (hSr _) | with_reducible exact Calls.above (hSn _))))
    refine wpQuiet_nil ?_
    rintro _ ⟨u, rfl⟩
    replace HX := Shut.mk (HX.out.below u.below)
    replace HAB := Shut.mk (blk_below HAB.out u.below)
    replace HAL : Shut (SysIn u.w ⟨tB, tK, aa, ac, arows⟩ ∧ arows.map MRow.says = T) := ⟨HAL.out.1.below u.below, HAL.out.2⟩
    replace HL : Shut (bl.length = lm ∧ Lies u.w la (bl.map Blk.val) ∧ AllIn u.w bl ∧ bl.map Blk.l = L) := ⟨HL.out.1, HL.out.2.1.below u.below (Nat.le_refl _), HL.out.2.2.1.below u.below, HL.out.2.2.2⟩
    replace hB := hB.trans (u.below.mono hB.size)
    clear s0 s1 s2 t0 t1 t2 m0 m1 m2 g0 g1 g2 hSo hCk hSm hSr hSn HNB HF9 ne e2 e3
    generalize u.w = w10 at *
    have a0 := cell_blk HAB.out 0
    have a1 := cell_blk HAB.out 1
    have a2 := cell_blk HAB.out 2
    simp at a0 a1 a2
    have hE := HE.out
    clear HE
    rcases hE with ⟨hq0, hf, hmo, hL, htB, htK, hT⟩ | ⟨hq0, hAR, hKO, hL24⟩
    · subst hf hmo hL htB htK hT
      have e4 : (f != 0) = true := by simpa using hq0
      have e5 : (f == f) = true := by simp
      have hbl : bl = [] := by have := HL.out.2.2.2; simpa using this
      have hlm : lm = 0 := by rw [← HL.out.1, hbl]; rfl
      have har : arows = [] := by have := HAL.out.2; simpa using this
      have ham : am = 0 := by rw [← HAM.out, har]; rfl
      subst hlm ham
      have hSz := sameSystem_any ⟨0, 0, aa, ac, arows⟩ ⟨0, 0, none, 0, []⟩ w10 HAL.out.1 (empty_in w10 0 0)
      simp only [HAL.out.2, HAM.out, List.map_nil, List.length_nil, and_self, decide_true] at hSz
      clear hq0 hbl har
      go_wp2_with fail
      refine hSz.mono ?_
      rintro e w11 ⟨rfl, d11⟩
      replace hB := hB.trans (d11.mono hB.size)
      clear hSz d11 a0 a1 a2
      go_wp2
      go_ret
      exact ⟨rfl, hB⟩
    · subst hq0
      have HKO := Shut.mk (And.intro hKO hL24)
      have e5 : (f == f) = true := by simp
      have e6 : (more == more) = true := by simp
      have s0 := cell_blk HX.out.1 0
      have s1 := cell_blk HX.out.1 1
      have s2 := cell_blk HX.out.1 2
      have r0 := cell_blk HX.out.2.1 0
      have r1 := cell_blk HX.out.2.1 1
      simp at s0 s1 s2 r0 r1
      have hAR2 := hAR w10 hB
      clear hAR hKO hL24 a0 a1 a2
      go_wp2_with fail
      refine hAR2.mono ?_
      rintro e w11 ⟨Aa, Ac, Arows, rfl, hS11, hT11, d11⟩
      have HAL2 := Shut.mk (And.intro hS11 hT11)
      obtain ⟨Am, hAm⟩ : ∃ Am, Arows.length = Am := ⟨_, rfl⟩
      have HAm := Shut.mk hAm
      rw [hAm]
      have bA : Below w11.heap.size w11 (w11.alloc (.cells #[.int .i64 tB, .int .i64 tK, .slice Aa Am Ac] 24)) := (Below.refl _ _).alloc (Nat.le_refl _) _
      have d12 := d11.trans (bA.mono d11.size)
      replace HX := Shut.mk (HX.out.below d12)
      replace HAB := Shut.mk (blk_below HAB.out d12)
      replace HAL : Shut (SysIn (w11.alloc (.cells #[.int .i64 tB, .int .i64 tK, .slice Aa Am Ac] 24)) ⟨tB, tK, aa, ac, arows⟩ ∧ arows.map MRow.says = T) := ⟨HAL.out.1.below d12, HAL.out.2⟩
      replace HAL2 : Shut (SysIn (w11.alloc (.cells #[.int .i64 tB, .int .i64 tK, .slice Aa Am Ac] 24)) ⟨tB, tK, Aa, Ac, Arows⟩ ∧ Arows.map MRow.says = T) := ⟨HAL2.out.1.below bA, HAL2.out.2⟩
      replace HL : Shut (bl.length = lm ∧ Lies (w11.alloc (.cells #[.int .i64 tB, .int .i64 tK, .slice Aa Am Ac] 24)) la (bl.map Blk.val) ∧ AllIn (w11.alloc (.cells #[.int .i64 tB, .int .i64 tK, .slice Aa Am Ac] 24)) bl ∧ bl.map Blk.l = L) := ⟨HL.out.1, HL.out.2.1.below d12 (Nat.le_refl _), HL.out.2.2.1.below d12, HL.out.2.2.2⟩
      have HA2B : Shut ((w11.alloc (.cells #[.int .i64 tB, .int .i64 tK, .slice Aa Am Ac] 24)).heap[w11.heap.size]? = some (.cells #[.int .i64 tB, .int .i64 tK, .slice Aa Am Ac] 24 (0, 0))) := ⟨by rw [heap_alloc_eq, if_pos rfl]⟩
      replace hB := hB.trans (d12.mono hB.size)
      clear hAR2 hS11 hT11 d11 d12 bA s0 s1 s2 r0 r1 hAm
      go_upto_region 14 with fail
      generalize w11.alloc (.cells #[.int .i64 tB, .int .i64 tK, .slice Aa Am Ac] 24) = w12 at *
      generalize w11.heap.size = Ab at *
      have a0 := cell_blk HAB.out 0
      have a1 := cell_blk HAB.out 1
      have a2 := cell_blk HAB.out 2
      have c0 := cell_blk HA2B.out 0
      have c1 := cell_blk HA2B.out 1
      have c2 := cell_blk HA2B.out 2
      simp at a0 a1 a2 c0 c1 c2
      have hSz := sameSystem_any ⟨tB, tK, aa, ac, arows⟩ ⟨tB, tK, Aa, Ac, Arows⟩ w12 HAL.out.1 HAL2.out.1
      simp only [HAL.out.2, HAM.out, HAL2.out.2, HAm.out, and_self, decide_true] at hSz
      go_wp2_with fail
      refine hSz.mono ?_
      rintro e w13 ⟨rfl, d13⟩
      replace HX := Shut.mk (HX.out.below d13)
      replace HL : Shut (bl.length = lm ∧ Lies w13 la (bl.map Blk.val) ∧ AllIn w13 bl ∧ bl.map Blk.l = L) := ⟨HL.out.1, HL.out.2.1.below d13 (Nat.le_refl _), HL.out.2.2.1.below d13, HL.out.2.2.2⟩
      replace hB := hB.trans (d13.mono hB.size)
      clear hSz d13 a0 a1 a2 c0 c1 c2 HAB HA2B HAL HAL2
      have s0 := cell_blk HX.out.1 0
      have s1 := cell_blk HX.out.1 1
      have s2 := cell_blk HX.out.1 2
      simp at s0 s1 s2
      have hKO2 := HKO.out.1 w13 hB
      go_wp2_with fail
      refine hKO2.mono ?_
      rintro e w14 ⟨ka, kc, bl2, rfl, hl14, hin14, hbl14, d14⟩
      replace HL : Shut (bl.length = lm ∧ Lies w14 la (bl.map Blk.val) ∧ AllIn w14 bl ∧ bl.map Blk.l = L) := ⟨HL.out.1, HL.out.2.1.below d14 (Nat.le_refl _), HL.out.2.2.1.below d14, HL.out.2.2.2⟩
      replace hB := hB.trans (d14.mono hB.size)
      have hb1 : bl.length ≤ 24 := by have := congrArg List.length HL.out.2.2.2; have := HKO.out.2; simp at *; omega
      have hb2 : bl2.length ≤ 24 := by have := congrArg List.length hbl14; have := HKO.out.2; simp at *; omega
      have hEq := equalFn_any 16 entersSays1 solveSays1 la ka lc kc bl bl2 w14 (by unfold maxLen; omega) (by unfold maxLen; omega) HL.out.2.1 hl14 HL.out.2.2.1 hin14
      rw [decide_eq_true (by rw [HL.out.2.2.2, hbl14]), HL.out.1] at hEq
      clear hKO2 hl14 hin14 hbl14 d14 s0 s1 s2 hb1 hb2
      go_wp2_with fail
      refine hEq.mono ?_
      rintro e w15 ⟨rfl, n15, rfl⟩
      replace hB := hB.trans ((bdn w14 n15 _).mono hB.size)
      clear hEq
      generalize w14.drewN n15 = w16 at *
      go_wp2
      go_ret
      exact ⟨rfl, hB⟩

theorem sysCall_zero {w : World} {f : FuncId} {args : Array Value} {c : Int} (h : ∀ W, Below w.heap.size w W → Calls Try.prog f args W fun e w' => e = .returned (.tuple #[.agg #[.int .i64 0, .int .i64 0, .slice none 0 0], .bool false, .int .i64 c]) ∧ Below W.heap.size W w') : SysCall f args w false c 0 0 [] := by
  intro W hW
  refine (h W hW).mono ?_
  rintro e w' ⟨rfl, hb⟩
  exact ⟨none, 0, [], rfl, empty_in w' 0 0, rfl, hb⟩

/-- SolveSays: true of all systems, rows and numbers -/
theorem solveSays_walk (s t : MSys) (r : MRow) (many long : Int) (w : World) (hs : SysIn w s) (ht : SysIn w t) (hcap : ∀ x ∈ s.rows, x.h.length ≤ x.hc) (hr : RowIn w r) :
    Calls Try.prog 3 #[.agg #[.int .i64 s.B, .int .i64 s.K, .slice s.ra s.rows.length s.rc], .agg #[r.hv, r.dv], .agg #[.int .i64 t.B, .int .i64 t.K, .slice t.ra t.rows.length t.rc], .int .i64 many, .int .i64 long] w fun e w' => e = .returned (.bool true) ∧ Below w.heap.size w w' := by
  by_cases hc : chkSys s.B s.K (s.rows.map MRow.says) = 0
  · obtain ⟨n, k, hn, hk, hR⟩ := right_of_chk hc
    have hKn : KnownCall #[.agg #[.int .i64 s.B, .int .i64 s.K, .slice s.ra s.rows.length s.rc]] w 0 (knownL n (s.rows.map MRow.says)) := fun W hW => by
      rw [hn, hk]
      refine (knownS_good n k s.ra s.rc s.rows W (hs.1.below hW (Nat.le_refl _)) (fun x hx => (hs.2.1 x hx).below hW) hcap hR).mono ?_
      rintro e w' ⟨g, bl, rfl, h1, h2, h3, h4, h5⟩
      have hl : bl.length = n := by have := congrArg List.length h4; rw [knownL_length] at this; simpa using this
      exact ⟨some ⟨g, 0, none⟩, n, bl, by rw [hl], h1, h2, h4, h5⟩
    have hKO : BlocksCall #[.agg #[.int .i64 s.B, .int .i64 s.K, .slice s.ra s.rows.length s.rc]] w (knownL n (s.rows.map MRow.says)) := fun W hW => by
      refine (knownOf_any s n k W (hs.below hW) hn hk hR.n1 hR.n2 (by have := hR.few; have := hR.n2; simp at *; omega) (fun x hx => (hR.fits _ (List.mem_map_of_mem hx)).1)).mono ?_
      rintro e w' ⟨g, bl, rfl, h1, h2, h3, h4, h5⟩
      have hl : bl.length = n := by have := congrArg List.length h3; rw [knownL_length] at this; simpa using this
      exact ⟨some ⟨g, 0, none⟩, n, bl, by rw [hl], h1, h2, h3, h5⟩
    have hL24 : (knownL n (s.rows.map MRow.says)).length ≤ 24 := by rw [knownL_length]; exact hR.n2
    by_cases hf : (r.h.length : Int) = s.B ∧ (r.d.length : Int) = s.K
    · have hfit : Fits n k r.says := ⟨by show r.h.length = n; omega, by show r.d.length = k; omega⟩
      have hAdd : ∀ W, Below w.heap.size w W → Calls Try.prog 6 #[.agg #[.int .i64 s.B, .int .i64 s.K, .slice s.ra s.rows.length s.rc], .agg #[r.hv, r.dv]] W fun e w' => AddAnsC W w' n k (s.rows.map MRow.says) r.says e := fun W hW => by
        rw [hn, hk]
        exact addS_good n k s.ra s.rc s.rows r W (hs.1.below hW (Nat.le_refl _)) (fun x hx => (hs.2.1 x hx).below hW) (hr.below hW) hR hfit
      have hRow : ∀ W, Below w.heap.size w W → Calls Try.prog 13 #[.agg #[.int .i64 s.B, .int .i64 s.K, .slice s.ra s.rows.length s.rc], .agg #[r.hv, r.dv]] W fun e w' => AddAns W w' n k (s.rows.map MRow.says) r.says e := fun W hW => by
        rw [hn, hk]
        refine (addRow_good n k s.ra s.rc s.rows r W (hs.1.below hW (Nat.le_refl _)) (fun x hx => (hs.2.1 x hx).below hW) (hr.below hW) hR.n1 hR.n2 hR.k1 hR.k2 (by have := hR.few; have := hR.n2; simp at *; omega) (fun x hx => hR.fits _ (List.mem_map_of_mem hx)) hfit).mono ?_
        intro e w' h
        refine AddPost.ans hR hfit ?_
        simpa [List.map_append, Function.comp_def] using h
      cases hP : addL (s.rows.map MRow.says) r.says with
      | none =>
        refine says_walk s t r many long w hs ht hr 0 hc false 9 0 0 [] _ (sysCall_zero fun W hW => (hAdd W hW).mono ?_) hKn (.inr ⟨rfl, sysCall_zero fun W hW => (hRow W hW).mono ?_, hKO, hL24⟩)
        · rintro e w' ⟨hb, ⟨_, rfl⟩ | ⟨P', a', c', rows', h1, _⟩⟩
          · exact ⟨rfl, hb⟩
          · rw [hP] at h1; cases h1
        · rintro e w' ⟨hb, ⟨_, rfl⟩ | ⟨P', a', c', rows', h1, _⟩⟩
          · exact ⟨rfl, hb⟩
          · rw [hP] at h1; cases h1
      | some P =>
        have hPl : P.length ≤ maxLen := by have := (addL_right hR hfit hP).1.few; have := hR.n2; unfold maxLen; omega
        refine says_walk s t r many long w hs ht hr 0 hc (decide (P.length = (s.rows.map MRow.says).length + 1)) 0 n k P _ (fun W hW => (hAdd W hW).mono ?_) hKn (.inr ⟨rfl, fun W hW => (hRow W hW).mono ?_, hKO, hL24⟩)
        · rintro e w' ⟨hb, ⟨h0, _⟩ | ⟨P', a', c', rows', h1, rfl, h3, h4, h5, _⟩⟩
          · rw [hP] at h0; cases h0
          · rw [hP] at h1; cases h1
            exact ⟨a', c', rows', rfl, ⟨h3, fun x hx => (h4 x hx).1, by have := congrArg List.length h5; simp at this; show rows'.length ≤ maxLen; omega⟩, h5, hb⟩
        · rintro e w' ⟨hb, ⟨h0, _⟩ | ⟨P', a', c', rows', h1, rfl, h3, h4, h5⟩⟩
          · rw [hP] at h0; cases h0
          · rw [hP] at h1; cases h1
            exact ⟨a', c', rows', rfl, ⟨h3, h4, by have := congrArg List.length h5; simp at this; show rows'.length ≤ maxLen; omega⟩, h5, hb⟩
    · refine says_walk s t r many long w hs ht hr 0 hc false 4 0 0 [] _ (sysCall_zero fun W hW => addS_form s r W (hs.below hW) (hr.below hW) hc hf) hKn (.inr ⟨rfl, sysCall_zero fun W hW => ?_, hKO, hL24⟩)
      rw [hn, hk]
      exact addRow_form n k s.ra s.rows.length s.rc r W (hr.below hW) hR.n2 hR.k2 fun hh => hf ⟨by have := hh.1; simp only [MRow.says] at this; omega, by have := hh.2; simp only [MRow.says] at this; omega⟩
  · refine says_walk s t r many long w hs ht hr _ rfl false _ 0 0 [] [] (sysCall_zero fun W hW => addS_chk s r W (hs.below hW) (hr.below hW) hc) ?_ (.inl ⟨hc, rfl, rfl, rfl, rfl, rfl, rfl⟩)
    intro W hW
    refine (knownS_chk s W (hs.below hW) hc).mono ?_
    rintro e w' ⟨rfl, hb⟩
    exact ⟨none, 0, [], rfl, Lies.nil _ _, (fun b hb => by cases hb), rfl, hb⟩

end Go.Proofs.Ytclbmfjincekfab
