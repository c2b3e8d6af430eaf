/-
  solve.New, solve.Same: the contract of each.
-/
import Derived.Test.YtclbmfjincekfabSlv2
import Derived.Test.YtclbmfjincekfabSlv3
import Derived.Test.YtclbmfjincekfabSame
import Derived.Shelf.Abstract
namespace Go.Proofs.Ytclbmfjincekfab
open Go.RowKit
set_option linter.unusedVariables false
set_option linter.unusedSimpArgs false

theorem empty_in (w : World) (B K : Int) : SysIn w ⟨B, K, none, 0, []⟩ := ⟨Lies.nil _ _, (fun r hr => by cases hr), Nat.zero_le _⟩

theorem new_any (B K : Int) (w : World) (v : Value) (hv : v = if chkSys B K [] = 0 then .agg #[.int .i64 B, .int .i64 K, .slice none 0 0] else .agg #[.int .i64 0, .int .i64 0, .slice none 0 0]) :
    Calls Try.prog 5 #[.int .i64 B, .int .i64 K] w fun e w' => e = .returned (.tuple #[v, .int .i64 (chkSys B K [])]) ∧ Below w.heap.size w w' := by
  have HV := Shut.mk hv
  clear hv
  obtain ⟨W, hW⟩ : ∃ W, (w.alloc (.cells #[.int .i64 0, .int .i64 0, .slice none 0 0] 24)).alloc (.cells #[.int .i64 B, .int .i64 K, .slice none 0 0] 24) = W := ⟨_, rfl⟩
  have hB : Below w.heap.size w W := by rw [← hW]; exact ((Below.refl _ _).alloc (Nat.le_refl _) _).alloc (by simp) _
  obtain ⟨blk0, blk1⟩ := alloc2 w (.cells #[.int .i64 0, .int .i64 0, .slice none 0 0] 24) (.cells #[.int .i64 B, .int .i64 K, .slice none 0 0] 24)
  rw [hW] at blk0 blk1
  have hsz : W.heap.size = w.heap.size + 2 := by rw [← hW]; simp
  have x0 : W.cell? ⟨w.heap.size, 0, none⟩ = some (.int .i64 0) := by simp [World.cell?, blk0]
  have x1 : W.cell? ⟨w.heap.size, 1, none⟩ = some (.int .i64 0) := by simp [World.cell?, blk0]
  have x2 : W.cell? ⟨w.heap.size, 2, none⟩ = some (.slice none 0 0) := by simp [World.cell?, blk0]
  have xf : ∀ j, W.frozen? ⟨w.heap.size, j, none⟩ = false := fun j => by simp [World.frozen?, blk0]
  have y0 : W.cell? ⟨w.heap.size + 1, 0, none⟩ = some (.int .i64 B) := by simp [World.cell?, blk1]
  have y1 : W.cell? ⟨w.heap.size + 1, 1, none⟩ = some (.int .i64 K) := by simp [World.cell?, blk1]
  have y2 : W.cell? ⟨w.heap.size + 1, 2, none⟩ = some (.slice none 0 0) := by simp [World.cell?, blk1]
  have hC := checkS_any ⟨B, K, none, 0, []⟩ W (empty_in W B K)
  simp only [List.map_nil, List.length_nil] at hC
  have HW := Shut.mk hW
  have HSZ := Shut.mk hsz
  clear blk0 blk1 hW hsz
  go_enter Try.func5, Try.ntmps5
  go_wp2_with fail
  rw [HW.out]
  have hsz := HSZ.out
  refine hC.mono ?_
  rintro e w1 ⟨rfl, hb⟩
  replace x0 := cellC x0 hb
  replace x1 := cellC x1 hb
  replace x2 := cellC x2 hb
  replace y0 := cellC y0 hb
  replace y1 := cellC y1 hb
  replace y2 := cellC y2 hb
  have f0 := ((bcell hb).2 w.heap.size 0 (by omega)).trans (xf 0)
  have f1 := ((bcell hb).2 w.heap.size 1 (by omega)).trans (xf 1)
  have f2 := ((bcell hb).2 w.heap.size 2 (by omega)).trans (xf 2)
  replace hb := hB.trans (hb.mono hB.size)
  obtain ⟨q, hq⟩ : ∃ q, chkSys B K [] = q := ⟨_, rfl⟩
  have HQ := Shut.mk hq
  rw [hq]
  clear hC xf hB HW HSZ hsz hq
  by_cases h0 : q = 0
  · subst h0
    go_wp2
    obtain ⟨z0, z1, z2⟩ := set3 x0 x1 x2 (.int .i64 B) (.int .i64 K) (.slice none 0 0)
    have hbF := ((hb.setCell (p := ⟨w.heap.size, 0, none⟩) (by simp) (.int .i64 B)).setCell (p := ⟨w.heap.size, 1, none⟩) (by simp) (.int .i64 K)).setCell (p := ⟨w.heap.size, 2, none⟩) (by simp) (.slice none 0 0)
    generalize ((w1.setCell ⟨w.heap.size, 0, none⟩ (.int .i64 B)).setCell ⟨w.heap.size, 1, none⟩ (.int .i64 K)).setCell ⟨w.heap.size, 2, none⟩ (.slice none 0 0) = w9 at *
    refine bodyPost_ret (v := .tuple #[.agg #[.int .i64 B, .int .i64 K, .slice none 0 0], .int .i64 0]) (by simp [results, Try.results5, go_sem, z0, z1, z2]) rfl ?_
    exact ⟨by rw [HV.out, if_pos HQ.out, HQ.out], hbF⟩
  · have h1 : (q != 0) = true := by simpa using h0
    have H0 := Shut.mk h0
    clear h0
    go_wp2
    obtain ⟨z0, z1, z2⟩ := set3 x0 x1 x2 (.int .i64 0) (.int .i64 0) (.slice none 0 0)
    have hbF := ((hb.setCell (p := ⟨w.heap.size, 0, none⟩) (by simp) (.int .i64 0)).setCell (p := ⟨w.heap.size, 1, none⟩) (by simp) (.int .i64 0)).setCell (p := ⟨w.heap.size, 2, none⟩) (by simp) (.slice none 0 0)
    generalize ((w1.setCell ⟨w.heap.size, 0, none⟩ (.int .i64 0)).setCell ⟨w.heap.size, 1, none⟩ (.int .i64 0)).setCell ⟨w.heap.size, 2, none⟩ (.slice none 0 0) = w9 at *
    refine bodyPost_ret (v := .tuple #[.agg #[.int .i64 0, .int .i64 0, .slice none 0 0], .int .i64 q]) (by simp [results, Try.results5, go_sem, z0, z1, z2]) rfl ?_
    exact ⟨by rw [HV.out, if_neg (by rw [HQ.out]; exact H0.out), HQ.out], hbF⟩

/-- rows that say the same -/
theorem same1_any (r s : MRow) (w : World) (hr : RowIn w r) (hs : RowIn w s) :
    Calls Try.prog 30 #[.agg #[r.hv, r.dv], .agg #[s.hv, s.dv]] w fun e w' => e = .returned (.bool (decide (r.says = s.says))) ∧ Below w.heap.size w w' := by
  obtain ⟨ha, hc, rh, da, dc, rd⟩ := r
  obtain ⟨ha', hc', sh, da', dc', sd⟩ := s
  simp only [MRow.hv, MRow.dv, MRow.says] at *
  obtain ⟨W, hW⟩ : ∃ W, (w.alloc (.cells #[.slice ha rh.length hc, .slice da rd.length dc] 29)).alloc (.cells #[.slice ha' sh.length hc', .slice da' sd.length dc'] 29) = W := ⟨_, rfl⟩
  have hB : Below w.heap.size w W := by rw [← hW]; exact ((Below.refl _ _).alloc (Nat.le_refl _) _).alloc (by simp) _
  obtain ⟨blk0, blk1⟩ := alloc2 w (.cells #[.slice ha rh.length hc, .slice da rd.length dc] 29) (.cells #[.slice ha' sh.length hc', .slice da' sd.length dc'] 29)
  rw [hW] at blk0 blk1
  have x0 : W.cell? ⟨w.heap.size, 0, none⟩ = some (.slice ha rh.length hc) := by simp [World.cell?, blk0]
  have x1 : W.cell? ⟨w.heap.size, 1, none⟩ = some (.slice da rd.length dc) := by simp [World.cell?, blk0]
  have y0 : W.cell? ⟨w.heap.size + 1, 0, none⟩ = some (.slice ha' sh.length hc') := by simp [World.cell?, blk1]
  have y1 : W.cell? ⟨w.heap.size + 1, 1, none⟩ = some (.slice da' sd.length dc') := by simp [World.cell?, blk1]
  replace hr := hr.below hB
  replace hs := hs.below hB
  have hE := equalBools (w := W) ha ha' hc hc' rh sh hr.2.2.1 hs.2.2.1 hr.1 hs.1
  have HW := Shut.mk hW
  clear blk0 blk1 hW
  go_enter Try.func30, Try.ntmps30
  go_wp2_with fail
  rw [HW.out]
  refine hE.mono ?_
  rintro e w1 ⟨rfl, n1, rfl⟩
  have bd := bdn W n1 W.heap.size
  replace x1 := cellC x1 bd
  replace y1 := cellC y1 bd
  have hS := same_any da da' rd.length sd.length dc dc' rd sd (W.drewN n1) rfl rfl (hr.2.1.drewN n1) (hs.2.1.drewN n1)
  have hb1 : Below w.heap.size w (W.drewN n1) := hB.trans (bd.mono hB.size)
  clear hE hr hs x0 y0 hB bd HW
  generalize W.drewN n1 = w2 at *
  by_cases e1 : rh = sh
  · rw [decide_eq_true e1]
    have E1 := Shut.mk e1
    clear e1
    go_wp2_with fail
    refine hS.mono ?_
    rintro e w3 ⟨rfl, rfl⟩
    by_cases e2 : rd = sd
    · rw [decide_eq_true e2]
      have E2 := Shut.mk e2
      clear e2 hS
      go_wp2
      go_ret
      exact ⟨retB (decide_eq_true (by rw [E1.out, E2.out])).symm, hb1⟩
    · rw [decide_eq_false e2]
      have E2 := Shut.mk e2
      clear e2 hS
      go_wp2
      go_ret
      exact ⟨retB (decide_eq_false fun h => E2.out (Prod.mk.inj h).2).symm, hb1⟩
  · rw [decide_eq_false e1]
    have E1 := Shut.mk e1
    clear e1 hS
    go_wp2
    go_ret
    exact ⟨retB (decide_eq_false fun h => E1.out (Prod.mk.inj h).1).symm, hb1⟩

theorem entersSame1 : ∀ args w, (callFunc 30 args).run Try.prog w = .ok (.enter 30 args) w := enters_of Try.func30 (by kernel_rfl) rfl

set_option maxHeartbeats 1000000 in
theorem equalRows_any (a b : Option Addr) (ca cb : Nat) (xl yl : List MRow) (w : World) (hx : xl.length ≤ maxLen) (hy : yl.length ≤ maxLen) (ha : Lies w a (rowCells xl)) (hb : Lies w b (rowCells yl)) (hxa : ∀ r ∈ xl, RowIn w r) (hya : ∀ r ∈ yl, RowIn w r) :
    Calls Try.prog 29 #[.slice a xl.length ca, .slice b yl.length cb, .func (.func 30) #[] #[]] w fun e w' => e = .returned (.bool (decide (xl.map MRow.says = yl.map MRow.says))) ∧ Below w.heap.size w w' := by
  have eg := entersSame1
  unfold maxLen at hx hy
  by_cases hl : xl.length = yl.length
  · have hne : ((xl.length : Int) != (yl.length : Int)) = false := by simp [hl]
    have HL := Shut.mk hl
    have hle : xl.length ≤ yl.length := by omega
    clear hl
    go_enter Try.func29, Try.ntmps29
    go_wp2
    go_loopw [17] (fun i wr => ∃ q : Nat, q ≤ xl.length ∧ i = .int .i64 q ∧ Below w.heap.size w wr ∧ Shut ((xl.map MRow.says).take q = (yl.map MRow.says).take q)) (fun i _ => xl.length - (intOf i).toNat)
    case atStart => exact ⟨0, Nat.zero_le _, rfl, Below.refl _ _, ⟨rfl⟩⟩
    case round =>
      obtain ⟨q, hq, rfl, hbr, HE⟩ := hrel
      by_cases hlt : q < xl.length
      · have hlt2 : q < yl.length := by omega
        obtain ⟨b1, o1, rfl⟩ := ha.some (k := 2 * q) (by rw [rowCells_length]; omega)
        obtain ⟨b2, o2, rfl⟩ := hb.some (k := 2 * q) (by rw [rowCells_length]; omega)
        obtain ⟨a0, a1⟩ := row_at (ha.below hbr (Nat.le_refl _)) hlt
        obtain ⟨c0, c1⟩ := row_at (hb.below hbr (Nat.le_refl _)) hlt2
        have rA := (hxa _ (List.getElem_mem hlt)).below hbr
        have rB := (hya _ (List.getElem_mem hlt2)).below hbr
        have HN : Shut (xl[q].says = yl[q].says → (xl.map MRow.says).take (q + 1) = (yl.map MRow.says).take (q + 1)) := ⟨fun e => by
          rw [List.take_succ_eq_append_getElem (by simpa using hlt), List.take_succ_eq_append_getElem (by simpa using hlt2), HE.out]
          simp [e]⟩
        have HD : Shut (xl[q].says ≠ yl[q].says → ¬ xl.map MRow.says = yl.map MRow.says) := ⟨fun hne e => hne (by
          have := congrArg (fun x => x[q]?) e
          simpa [hlt, hlt2] using this)⟩
        generalize xl[q]'hlt = R at *
        generalize yl[q]'hlt2 = T at *
        have bd1 : Below wr.heap.size wr (wr.alloc (.cells #[R.hv, R.dv] 29)) := (Below.refl _ _).alloc (Nat.le_refl _) _
        have c0' := cellC c0 bd1
        have c1' := cellC c1 bd1
        obtain ⟨blk0, blk1⟩ := alloc2 wr (.cells #[R.hv, R.dv] 29) (.cells #[T.hv, T.dv] 29)
        obtain ⟨W, hW⟩ : ∃ W, (wr.alloc (.cells #[R.hv, R.dv] 29)).alloc (.cells #[T.hv, T.dv] 29) = W := ⟨_, rfl⟩
        have bd : Below wr.heap.size wr W := by rw [← hW]; exact bd1.alloc (by simp) _
        rw [hW] at blk0 blk1
        have x0 : W.cell? ⟨wr.heap.size, 0, none⟩ = some R.hv := by simp [World.cell?, blk0]
        have x1 : W.cell? ⟨wr.heap.size, 1, none⟩ = some R.dv := by simp [World.cell?, blk0]
        have y0 : W.cell? ⟨wr.heap.size + 1, 0, none⟩ = some T.hv := by simp [World.cell?, blk1]
        have y1 : W.cell? ⟨wr.heap.size + 1, 1, none⟩ = some T.dv := by simp [World.cell?, blk1]
        have hS := same1_any R T W (rA.below bd) (rB.below bd)
        have hb2 := hbr.trans (bd.mono hbr.size)
        clear blk0 blk1 rA rB bd bd1 hbr HE ha hb hxa hya
        obtain ⟨dd, hdd⟩ : ∃ dd, decide (R.says = T.says) = dd := ⟨_, rfl⟩
        rw [hdd] at hS
        have HDD := Shut.mk hdd
        clear hdd
        obtain ⟨rha, rhc, rh, rda, rdc, rd⟩ := R
        obtain ⟨sha, shc, sh, sda, sdc, sd⟩ := T
        simp only [MRow.hv, MRow.dv, MRow.says] at *
        rw [← hW] at x0 x1 y0 y1
        have HW := Shut.mk hW
        clear hW
        go_wp2_with fail
        rw [HW.out]
        refine hS.mono ?_
        rintro e w2 ⟨rfl, hb3⟩
        have hb4 := hb2.trans (hb3.mono hb2.size)
        clear hS hb3 hb2 x0 x1 y0 y1 a0 a1 c0 c1 c0' c1' HW
        cases dd
        · have HX := Shut.mk (HD.out (of_decide_eq_false HDD.out))
          clear HN HD HDD
          go_wp2
          go_ret
          exact ⟨retB (decide_eq_false HX.out).symm, hb4⟩
        · have HX := Shut.mk (HN.out (of_decide_eq_true HDD.out))
          clear HN HD HDD
          go_wp2
          go_roundw
          case rel => exact ⟨q + 1, by omega, by go_num, hb4, HX⟩
          case measure => simp [intOf]; omega
      · have HX : Shut (xl.map MRow.says = yl.map MRow.says) := ⟨by
          have h := HE.out
          rwa [List.take_of_length_le (by simp; omega), List.take_of_length_le (by simp [← HL.out]; omega)] at h⟩
        clear ha hb HE hxa hya
        go_wp2
        go_ret
        exact ⟨retB (decide_eq_true HX.out).symm, hbr⟩
  · have hne : ((xl.length : Int) != (yl.length : Int)) = true := by simp; omega
    have HD : Shut (¬ xl.map MRow.says = yl.map MRow.says) := ⟨fun e => hl (by have := congrArg List.length e; simpa using this)⟩
    clear hl ha hb hxa hya
    go_enter Try.func29, Try.ntmps29
    go_wp2
    go_ret
    exact ⟨retB (decide_eq_false HD.out).symm, Below.refl _ _⟩

set_option maxHeartbeats 1000000 in
/-- alike in all fields -/
theorem sysSame_any (s t : MSys) (w : World) (hs : SysIn w s) (ht : SysIn w t) :
    Calls Try.prog 11 #[.agg #[.int .i64 s.B, .int .i64 s.K, .slice s.ra s.rows.length s.rc], .agg #[.int .i64 t.B, .int .i64 t.K, .slice t.ra t.rows.length t.rc]] w fun e w' =>
      e = .returned (.bool (decide (s.B = t.B ∧ s.K = t.K ∧ s.rows.map MRow.says = t.rows.map MRow.says))) ∧ Below w.heap.size w w' := by
  obtain ⟨B, K, ra, rc, rows⟩ := s
  obtain ⟨B', K', ra', rc', rows'⟩ := t
  simp only at *
  obtain ⟨W, hW⟩ : ∃ W, (w.alloc (.cells #[.int .i64 B, .int .i64 K, .slice ra rows.length rc] 24)).alloc (.cells #[.int .i64 B', .int .i64 K', .slice ra' rows'.length rc'] 24) = W := ⟨_, rfl⟩
  have hB : Below w.heap.size w W := by rw [← hW]; exact ((Below.refl _ _).alloc (Nat.le_refl _) _).alloc (by simp) _
  obtain ⟨blk0, blk1⟩ := alloc2 w (.cells #[.int .i64 B, .int .i64 K, .slice ra rows.length rc] 24) (.cells #[.int .i64 B', .int .i64 K', .slice ra' rows'.length rc'] 24)
  rw [hW] at blk0 blk1
  have x2 : W.cell? ⟨w.heap.size, 2, none⟩ = some (.slice ra rows.length rc) := by simp [World.cell?, blk0]
  have y2 : W.cell? ⟨w.heap.size + 1, 2, none⟩ = some (.slice ra' rows'.length rc') := by simp [World.cell?, blk1]
  replace hs := hs.below hB
  replace ht := ht.below hB
  have hE := equalRows_any ra ra' rc rc' rows rows' W hs.2.2 ht.2.2 hs.1 ht.1 hs.2.1 ht.2.1
  clear blk0 blk1 hs ht
  by_cases h1 : B = B'
  · have b1 : (B == B') = true := by simpa using h1
    have H1 := Shut.mk h1
    clear h1
    by_cases h2 : K = K'
    · have b2 : (K == K') = true := by simpa using h2
      have H2 := Shut.mk h2
      clear h2
      rw [← hW] at x2 y2
      obtain ⟨dd, hdd⟩ : ∃ dd, decide (rows.map MRow.says = rows'.map MRow.says) = dd := ⟨_, rfl⟩
      rw [hdd] at hE
      have HDD := Shut.mk hdd
      have HW := Shut.mk hW
      clear hdd hW
      go_enter Try.func11, Try.ntmps11
      go_wp2_with fail
      rw [HW.out]
      refine hE.mono ?_
      rintro e w1 ⟨rfl, hb⟩
      have hb1 := hB.trans (hb.mono hB.size)
      clear hE hb x2 y2 hB HW
      go_wp2
      go_ret
      exact ⟨retB (by rw [← HDD.out]; simp only [H1.out, H2.out, true_and]), hb1⟩
    · have b2 : (K == K') = false := by simpa using h2
      have H2 := Shut.mk h2
      clear h2 hE x2 y2
      rw [← hW] at hB
      clear hW
      go_enter Try.func11, Try.ntmps11
      go_wp2
      go_ret
      exact ⟨retB (decide_eq_false fun h => H2.out h.2.1).symm, hB⟩
  · have b1 : (B == B') = false := by simpa using h1
    have H1 := Shut.mk h1
    clear h1 hE x2 y2
    rw [← hW] at hB
    clear hW
    go_enter Try.func11, Try.ntmps11
    go_wp2
    go_ret
    exact ⟨retB (decide_eq_false fun h => H1.out h.1).symm, hB⟩

end Go.Proofs.Ytclbmfjincekfab
