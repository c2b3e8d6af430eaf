import Derived.Test.YthhhlampphlmgaaPart5
import Derived.Test.YthhhlampphlmgaaPart11
import Derived.Deep.RegionHeld3
import Derived.Deep.RegionWith
import Derived.Deep.DrawnRows
import Derived.Test.YthhhlampphlmgaaRows
import Derived.Test.YthhhlampphlmgaaPart1
import Derived.RegionTactic
import Derived.BigRegion
import Derived.Deep.RegionLaw
/-
  Chapter 10: the reference's CheckMail.
-/
namespace Go.Proofs.Ythhhlampphlmgaa
open Go.RowKit
set_option linter.unusedVariables false
set_option linter.unusedSimpArgs false

set_option maxHeartbeats 8000000 in
set_option maxRecDepth 8000 in
theorem refCheckMail_any (a : Option Addr) (l : List MMl) (c : Nat) (w : World) (hl : Lies w a (mailCells l)) (hall : ∀ y ∈ l, MlOk y) (hc : l.length ≤ c) (hm : l.length ≤ maxLen) :
    Calls Try.prog 7 #[.slice a l.length c] w fun e w' => e = .returned (.int .i64 (wyCode (l.map MMl.m))) ∧ Below w.heap.size w w' := by
  obtain ⟨Z, hZ⟩ : ∃ Z, wyCode (l.map MMl.m) = Z := ⟨_, rfl⟩
  rw [hZ]
  have HZ := Shut.mk hZ
  obtain ⟨n, hn⟩ : ∃ n, l.length = n := ⟨_, rfl⟩
  have HX := Shut.mk (And.intro hn (And.intro hl hall))
  rw [hn] at hc hm ⊢
  unfold maxLen at hm
  clear hl hall hn hZ
  by_cases h40 : 40 < n
  · have HE : Shut (Z = 2) := ⟨by rw [← HZ.out, wyCode, if_pos (by rw [List.length_map, HX.out.1]; exact h40)]⟩
    have h40' : (n : Int) > 40 := by omega
    go_enter Try.func7, Try.ntmps7
    go_wp2
    go_ret
    exact ⟨by rw [HE.out]; rfl, Below.refl _ _⟩
  · have HE : Shut (Z = firstBad ((l.map MMl.m).drop 0)) := ⟨by rw [← HZ.out, wyCode, if_neg (by rw [List.length_map, HX.out.1]; exact h40), List.drop_zero]⟩
    have h40' : ¬ (n : Int) > 40 := by omega
    clear HZ
    go_enter Try.func7, Try.ntmps7
    go_wp2
    go_loopw [13] (fun i wr => ∃ q : Nat, q ≤ n ∧ i = .int .i64 q ∧ Shut (Below w.heap.size w wr ∧ Z = firstBad ((l.map MMl.m).drop q))) (fun i _ => n - (intOf i).toNat)
    case atStart => exact ⟨0, Nat.zero_le _, rfl, ⟨Below.refl _ _, HE.out⟩⟩
    case round =>
      clear HE
      obtain ⟨q, hq, rfl, HN⟩ := hrel
      have hbr := HN.out.1
      by_cases hlt : q < n
      · obtain ⟨x, hx⟩ : ∃ x, l[q]? = some x := ⟨_, List.getElem?_eq_getElem (by rw [HX.out.1]; exact hlt)⟩
        obtain ⟨b1, o1, rfl⟩ := HX.out.2.1.some (k := 0) (by rw [mailCells_length, HX.out.1]; omega)
        have h1 := And.intro (HX.out.2.1.below hbr (Nat.le_refl _)) hx
        have hxo := HX.out.2.2 x (List.mem_of_getElem? hx)
        have hxm : (l.map MMl.m)[q]? = some x.m := by rw [List.getElem?_map, hx]; rfl
        obtain ⟨C, hCC⟩ : ∃ C, x.m.code = C := ⟨_, rfl⟩
        have HS : Shut ((C = 0 → Z = firstBad ((l.map MMl.m).drop (q + 1))) ∧ (C ≠ 0 → Z = C)) := ⟨fun h => by rw [HN.out.2, firstBad_step hxm (hCC.trans h)], fun h => by rw [HN.out.2, firstBad_stop hxm (by rw [hCC]; exact h), hCC]⟩
        clear hxm HN
        obtain ⟨⟨f, t, k, h, id, d, nn, y⟩, da, dc⟩ := x
        have HC : Shut (C = mlC f t k h id d.length nn y) := ⟨hCC.symm⟩
        have HO : Shut (h.ok ∧ d.length ≤ maxLen) := ⟨hxo.1.2.2.2.1, hxo.2⟩
        clear hxo hCC hx
        have p0 : wr.cell? ⟨b1, o1 + q * 13, none⟩ = some (.int .i64 f) := mails_cell h1 0 rfl
        have p1 : wr.cell? ⟨b1, o1 + q * 13 + 1, none⟩ = some (.int .i64 t) := mails_cell h1 1 rfl
        have p2 : wr.cell? ⟨b1, o1 + q * 13 + 2, none⟩ = some (.int .i64 k) := mails_cell h1 2 rfl
        have p3 : wr.cell? ⟨b1, o1 + q * 13 + 3, none⟩ = some (.int .i64 h.F) := mails_cell h1 3 rfl
        have p4 : wr.cell? ⟨b1, o1 + q * 13 + 4, none⟩ = some (.int .i64 h.Q) := mails_cell h1 4 rfl
        have p5 : wr.cell? ⟨b1, o1 + q * 13 + 5, none⟩ = some (.int .i64 h.T) := mails_cell h1 5 rfl
        have p6 : wr.cell? ⟨b1, o1 + q * 13 + 6, none⟩ = some (.int .i64 h.L) := mails_cell h1 6 rfl
        have p7 : wr.cell? ⟨b1, o1 + q * 13 + 7, none⟩ = some (.int .i64 h.B) := mails_cell h1 7 rfl
        have p8 : wr.cell? ⟨b1, o1 + q * 13 + 8, none⟩ = some (.int .i64 h.K) := mails_cell h1 8 rfl
        have p9 : wr.cell? ⟨b1, o1 + q * 13 + 9, none⟩ = some (.int .i64 id) := mails_cell h1 9 rfl
        have p10 : wr.cell? ⟨b1, o1 + q * 13 + 10, none⟩ = some (.slice da d.length dc) := mails_cell h1 10 rfl
        have p11 : wr.cell? ⟨b1, o1 + q * 13 + 11, none⟩ = some (.int .i64 nn) := mails_cell h1 11 rfl
        have p12 : wr.cell? ⟨b1, o1 + q * 13 + 12, none⟩ = some (.int .i64 y) := mails_cell h1 12 rfl
        clear h1
        go_upto_region 6 with fail
        obtain ⟨W1, hW1⟩ : ∃ W1, wr.alloc (.cells #[.int .i64 f, .int .i64 t, .int .i64 k, .int .i64 h.F, .int .i64 h.Q, .int .i64 h.T, .int .i64 h.L, .int .i64 h.B, .int .i64 h.K, .int .i64 id, .slice da d.length dc, .int .i64 nn, .int .i64 y] 34) = W1 := ⟨_, rfl⟩
        rw [hW1]
        have hb1 : Below wr.heap.size wr W1 := by rw [← hW1]; exact (Below.refl _ _).alloc (Nat.le_refl _) _
        have hk1 : W1.heap[wr.heap.size]? = some (.cells #[.int .i64 f, .int .i64 t, .int .i64 k, .int .i64 h.F, .int .i64 h.Q, .int .i64 h.T, .int .i64 h.L, .int .i64 h.B, .int .i64 h.K, .int .i64 id, .slice da d.length dc, .int .i64 nn, .int .i64 y] 34 (0, 0)) := by rw [← hW1, heap_alloc_eq, if_pos rfl]
        have hBW := hbr.trans (hb1.mono hbr.size)
        clear hW1 hb1 hbr p0 p1 p2 p3 p4 p5 p6 p7 p8 p9 p10 p11 p12
        obtain ⟨q0, q1, q2, q3, q4, q5, q6, q7, q8, q9, q10, q11, q12⟩ := mlBox hk1
        by_cases rf : 0 ≤ f ∧ f ≤ 3
        · have drf := Shut.mk (decide_eq_true rf)
          go_wp2_with fail
          refine (in_any f 0 3 _).mono ?_
          rintro e _ ⟨rfl, rfl⟩
          rw [drf.out]
          by_cases rt : 0 ≤ t ∧ t ≤ 3
          · have drt := Shut.mk (decide_eq_true rt)
            go_wp2_with fail
            refine (in_any t 0 3 _).mono ?_
            rintro e _ ⟨rfl, rfl⟩
            rw [drt.out]
            replace HC : Shut (C = frCode k h id d.length nn y) := ⟨by rw [HC.out, mlC, if_neg (by omega)]⟩
            clear rf rt
            go_upto_region 9 with fail
            obtain ⟨WF, hWF⟩ : ∃ WF, W1.alloc (.cells #[.int .i64 k, .int .i64 h.F, .int .i64 h.Q, .int .i64 h.T, .int .i64 h.L, .int .i64 h.B, .int .i64 h.K, .int .i64 id, .slice da d.length dc, .int .i64 nn, .int .i64 y] 32) = WF := ⟨_, rfl⟩
            rw [hWF]
            have hbF : Below W1.heap.size W1 WF := by rw [← hWF]; exact (Below.refl _ _).alloc (Nat.le_refl _) _
            have hkF : WF.heap[W1.heap.size]? = some (.cells #[.int .i64 k, .int .i64 h.F, .int .i64 h.Q, .int .i64 h.T, .int .i64 h.L, .int .i64 h.B, .int .i64 h.K, .int .i64 id, .slice da d.length dc, .int .i64 nn, .int .i64 y] 32 (0, 0)) := by rw [← hWF, heap_alloc_eq, if_pos rfl]
            replace hBW := hBW.trans (hbF.mono hBW.size)
            clear hWF hbF hk1 q0 q1 q2 q3 q4 q5 q6 q7 q8 q9 q10 q11 q12
            obtain ⟨s0, s1, s2, s3, s4, s5, s6, s7, s8, s9, s10⟩ := frBox hkF
            replace HC : Shut (C = if k < 1 ∨ 4 < k then 4 else if hdCode h ≠ 0 then hdCode h else if shCode k nn y ≠ 0 then shCode k nn y else syCode k h id d.length) := ⟨HC.out⟩
            by_cases rk : 1 ≤ k ∧ k ≤ 4
            · have drk := Shut.mk (decide_eq_true rk)
              go_wp2_with fail
              refine (in_any k 1 4 _).mono ?_
              rintro e _ ⟨rfl, rfl⟩
              rw [drk.out]
              replace HC : Shut (C = if hdCode h ≠ 0 then hdCode h else if shCode k nn y ≠ 0 then shCode k nn y else syCode k h id d.length) := ⟨by rw [HC.out, if_neg (by omega)]⟩
              have hH := checkHead_any h WF HO.out.1
              simp only [Hd.val] at hH
              generalize hdCode h = z at hH HC
              clear rk
              go_wp2_with fail
              refine hH.mono ?_
              rintro e WQ ⟨rfl, hb⟩
              replace hBW := hBW.trans (hb.mono hBW.size)
              replace hkF := blkB hkF hb
              clear hH hb s0 s1 s2 s3 s4 s5 s6 s7 s8 s9 s10
              obtain ⟨s0, s1, s2, s3, s4, s5, s6, s7, s8, s9, s10⟩ := frBox hkF
              by_cases hz : z = 0
              · subst hz
                replace HC : Shut (C = if shCode k nn y ≠ 0 then shCode k nn y else syCode k h id d.length) := ⟨by rw [HC.out, if_neg (by simp)]⟩
                by_cases k23 : k = 2 ∨ k = 3
                · have k1 : ¬ k = 1 := by omega
                  have HK := Shut.mk k23
                  rcases k23 with rfl | rfl
                  · by_cases r1 : 1 ≤ nn ∧ nn ≤ 64
                    · have d1 := Shut.mk (decide_eq_true r1)
                      go_wp2_with fail
                      refine (in_any nn 1 64 _).mono ?_
                      rintro e _ ⟨rfl, rfl⟩
                      rw [d1.out]
                      by_cases r2 : 1 ≤ y ∧ y ≤ 9999
                      · have d2 := Shut.mk (decide_eq_true r2)
                        replace HC : Shut (C = syCode 2 h id d.length) := ⟨by rw [HC.out, show shCode 2 nn y = 0 by rw [shCode, if_pos (by decide), if_neg (by omega)], if_neg (by decide)]⟩
                        clear r1 r2
                        go_wp2_with fail
                        refine (in_any y 1 9999 _).mono ?_
                        rintro e _ ⟨rfl, rfl⟩
                        rw [d2.out]
                        replace HC : Shut (C = if id ≠ 0 ∨ 0 < d.length then 4 else 0) := ⟨by rw [HC.out, syCode, if_neg (by decide)]⟩
                        by_cases hid : id ≠ 0 ∨ 0 < d.length
                        · replace HC : Shut (C = 4) := ⟨by rw [HC.out, if_pos hid]⟩
                          have RZ : Shut (Z = 4) := ⟨by rw [HS.out.2 (by rw [HC.out]; decide), HC.out]⟩
                          clear HS
                          go_wp2
                          all_goals first
                            | (exfalso; omega)
                            | (go_ret
                               exact ⟨by rw [RZ.out]; rfl, hBW⟩)
                        · replace HC : Shut (C = 0) := ⟨by rw [HC.out, if_neg hid]⟩
                          obtain rfl : id = 0 := by omega
                          have hd0 : ¬ (d.length : Int) > 0 := by omega
                          clear hid
                          have R : Shut (Below w.heap.size w WQ ∧ Z = firstBad ((l.map MMl.m).drop (q + 1))) := ⟨hBW, HS.out.1 HC.out⟩
                          clear HS
                          go_wp2
                          go_roundw
                          case rel => exact ⟨q + 1, by omega, by go_num, R⟩
                          case measure => simp [intOf]; omega
                      · have d2 := Shut.mk (decide_eq_false r2)
                        replace HC : Shut (C = 3) := ⟨by rw [HC.out, show shCode 2 nn y = 3 by rw [shCode, if_pos (by decide), if_pos (by omega)], if_pos (by decide)]⟩
                        clear r1 r2
                        go_wp2_with fail
                        refine (in_any y 1 9999 _).mono ?_
                        rintro e _ ⟨rfl, rfl⟩
                        rw [d2.out]
                        have RZ : Shut (Z = 3) := ⟨by rw [HS.out.2 (by rw [HC.out]; decide), HC.out]⟩
                        clear HS
                        go_wp2
                        go_ret
                        exact ⟨by rw [RZ.out]; rfl, hBW⟩
                    · have d1 := Shut.mk (decide_eq_false r1)
                      replace HC : Shut (C = 3) := ⟨by rw [HC.out, show shCode 2 nn y = 3 by rw [shCode, if_pos (by decide), if_pos (by omega)], if_pos (by decide)]⟩
                      clear r1
                      go_wp2_with fail
                      refine (in_any nn 1 64 _).mono ?_
                      rintro e _ ⟨rfl, rfl⟩
                      rw [d1.out]
                      have RZ : Shut (Z = 3) := ⟨by rw [HS.out.2 (by rw [HC.out]; decide), HC.out]⟩
                      clear HS
                      go_wp2
                      go_ret
                      exact ⟨by rw [RZ.out]; rfl, hBW⟩
                  · by_cases r1 : 1 ≤ nn ∧ nn ≤ 64
                    · have d1 := Shut.mk (decide_eq_true r1)
                      go_wp2_with fail
                      refine (in_any nn 1 64 _).mono ?_
                      rintro e _ ⟨rfl, rfl⟩
                      rw [d1.out]
                      by_cases r2 : 1 ≤ y ∧ y ≤ 9999
                      · have d2 := Shut.mk (decide_eq_true r2)
                        replace HC : Shut (C = syCode 3 h id d.length) := ⟨by rw [HC.out, show shCode 3 nn y = 0 by rw [shCode, if_pos (by decide), if_neg (by omega)], if_neg (by decide)]⟩
                        clear r1 r2
                        go_wp2_with fail
                        refine (in_any y 1 9999 _).mono ?_
                        rintro e _ ⟨rfl, rfl⟩
                        rw [d2.out]
                        replace HC : Shut (C = if id ≠ 0 ∨ 0 < d.length then 4 else 0) := ⟨by rw [HC.out, syCode, if_neg (by decide)]⟩
                        by_cases hid : id ≠ 0 ∨ 0 < d.length
                        · replace HC : Shut (C = 4) := ⟨by rw [HC.out, if_pos hid]⟩
                          have RZ : Shut (Z = 4) := ⟨by rw [HS.out.2 (by rw [HC.out]; decide), HC.out]⟩
                          clear HS
                          go_wp2
                          all_goals first
                            | (exfalso; omega)
                            | (go_ret
                               exact ⟨by rw [RZ.out]; rfl, hBW⟩)
                        · replace HC : Shut (C = 0) := ⟨by rw [HC.out, if_neg hid]⟩
                          obtain rfl : id = 0 := by omega
                          have hd0 : ¬ (d.length : Int) > 0 := by omega
                          clear hid
                          have R : Shut (Below w.heap.size w WQ ∧ Z = firstBad ((l.map MMl.m).drop (q + 1))) := ⟨hBW, HS.out.1 HC.out⟩
                          clear HS
                          go_wp2
                          go_roundw
                          case rel => exact ⟨q + 1, by omega, by go_num, R⟩
                          case measure => simp [intOf]; omega
                      · have d2 := Shut.mk (decide_eq_false r2)
                        replace HC : Shut (C = 3) := ⟨by rw [HC.out, show shCode 3 nn y = 3 by rw [shCode, if_pos (by decide), if_pos (by omega)], if_pos (by decide)]⟩
                        clear r1 r2
                        go_wp2_with fail
                        refine (in_any y 1 9999 _).mono ?_
                        rintro e _ ⟨rfl, rfl⟩
                        rw [d2.out]
                        have RZ : Shut (Z = 3) := ⟨by rw [HS.out.2 (by rw [HC.out]; decide), HC.out]⟩
                        clear HS
                        go_wp2
                        go_ret
                        exact ⟨by rw [RZ.out]; rfl, hBW⟩
                    · have d1 := Shut.mk (decide_eq_false r1)
                      replace HC : Shut (C = 3) := ⟨by rw [HC.out, show shCode 3 nn y = 3 by rw [shCode, if_pos (by decide), if_pos (by omega)], if_pos (by decide)]⟩
                      clear r1
                      go_wp2_with fail
                      refine (in_any nn 1 64 _).mono ?_
                      rintro e _ ⟨rfl, rfl⟩
                      rw [d1.out]
                      have RZ : Shut (Z = 3) := ⟨by rw [HS.out.2 (by rw [HC.out]; decide), HC.out]⟩
                      clear HS
                      go_wp2
                      go_ret
                      exact ⟨by rw [RZ.out]; rfl, hBW⟩
                · have k2 : ¬ k = 2 := fun e => k23 (Or.inl e)
                  have k3 : ¬ k = 3 := fun e => k23 (Or.inr e)
                  have k2b : (k == 2) = false := by simpa using k2
                  have k3b : (k == 3) = false := by simpa using k3
                  by_cases hny : nn ≠ 0 ∨ y ≠ 0
                  · replace HC : Shut (C = 4) := ⟨by rw [HC.out, shCode, if_neg k23, if_pos hny]; simp⟩
                    have RZ : Shut (Z = 4) := ⟨by rw [HS.out.2 (by rw [HC.out]; decide), HC.out]⟩
                    clear HS k23
                    go_wp2
                    all_goals first
                      | (exfalso; omega)
                      | (go_ret
                         exact ⟨by rw [RZ.out]; rfl, hBW⟩)
                  · replace HC : Shut (C = syCode k h id d.length) := ⟨by rw [HC.out, shCode, if_neg k23, if_neg hny]; simp⟩
                    obtain rfl : nn = 0 := by omega
                    obtain rfl : y = 0 := by omega
                    clear hny k23
                    by_cases k1 : k = 1
                    · have HC2 : Shut (C = chkS h.B h.K id d.length) := ⟨by rw [HC.out, syCode, if_pos k1]⟩
                      replace HC := HC2
                      clear HC2
                      have hY := checkSymbol_any h.B h.K id da d.length dc WQ HO.out.1.2.2.2.2.1 HO.out.1.2.2.2.2.2 HO.out.2
                      generalize chkS h.B h.K id d.length = z at hY HC
                      subst k1
                      go_wp2_with fail
                      refine hY.mono ?_
                      rintro e WR ⟨rfl, hb⟩
                      have hBR := hBW.trans (hb.mono hBW.size)
                      clear hY hb hBW hkF s0 s1 s2 s3 s4 s5 s6 s7 s8 s9 s10
                      by_cases hz : z = 0
                      · subst hz
                        have R : Shut (Below w.heap.size w WR ∧ Z = firstBad ((l.map MMl.m).drop (q + 1))) := ⟨hBR, HS.out.1 HC.out⟩
                        clear HS
                        go_wp2
                        go_roundw
                        case rel => exact ⟨q + 1, by omega, by go_num, R⟩
                        case measure => simp [intOf]; omega
                      · have bz : (z != 0) = true := by simpa using hz
                        have RZ : Shut (Z = z) := ⟨by rw [HS.out.2 (by rw [HC.out]; exact hz), HC.out]⟩
                        clear HS hz
                        go_wp2
                        go_ret
                        exact ⟨by rw [RZ.out]; rfl, hBR⟩
                    · have HC2 : Shut (C = if id ≠ 0 ∨ 0 < d.length then 4 else 0) := ⟨by rw [HC.out, syCode, if_neg k1]⟩
                      have k1b : (k == 1) = false := by simpa using k1
                      replace HC := HC2
                      clear HC2
                      by_cases hid : id ≠ 0 ∨ 0 < d.length
                      · replace HC : Shut (C = 4) := ⟨by rw [HC.out, if_pos hid]⟩
                        have RZ : Shut (Z = 4) := ⟨by rw [HS.out.2 (by rw [HC.out]; decide), HC.out]⟩
                        clear HS
                        go_wp2
                        all_goals first
                          | (exfalso; omega)
                          | (go_ret
                             exact ⟨by rw [RZ.out]; rfl, hBW⟩)
                      · replace HC : Shut (C = 0) := ⟨by rw [HC.out, if_neg hid]⟩
                        obtain rfl : id = 0 := by omega
                        have hd0 : ¬ (d.length : Int) > 0 := by omega
                        clear hid
                        have R : Shut (Below w.heap.size w WQ ∧ Z = firstBad ((l.map MMl.m).drop (q + 1))) := ⟨hBW, HS.out.1 HC.out⟩
                        clear HS
                        go_wp2
                        go_roundw
                        case rel => exact ⟨q + 1, by omega, by go_num, R⟩
                        case measure => simp [intOf]; omega
              · replace HC : Shut (C = z) := ⟨by rw [HC.out, if_pos hz]⟩
                have bz : (z != 0) = true := by simpa using hz
                have RZ : Shut (Z = z) := ⟨by rw [HS.out.2 (by rw [HC.out]; exact hz), HC.out]⟩
                clear HS hz
                go_wp2
                go_ret
                exact ⟨by rw [RZ.out]; rfl, hBW⟩
            · have drk := Shut.mk (decide_eq_false rk)
              replace HC : Shut (C = 4) := ⟨by rw [HC.out]; rw [if_pos (by omega)]⟩
              clear rk
              go_wp2_with fail
              refine (in_any k 1 4 _).mono ?_
              rintro e _ ⟨rfl, rfl⟩
              rw [drk.out]
              have RZ : Shut (Z = 4) := ⟨by rw [HS.out.2 (by rw [HC.out]; decide), HC.out]⟩
              clear HS
              go_wp2
              go_ret
              exact ⟨by rw [RZ.out]; rfl, hBW⟩
          · have drt := Shut.mk (decide_eq_false rt)
            replace HC : Shut (C = 3) := ⟨by rw [HC.out]; rw [mlC, if_pos (by omega)]⟩
            clear rt
            go_wp2_with fail
            refine (in_any t 0 3 _).mono ?_
            rintro e _ ⟨rfl, rfl⟩
            rw [drt.out]
            have RZ : Shut (Z = 3) := ⟨by rw [HS.out.2 (by rw [HC.out]; decide), HC.out]⟩
            clear HS
            go_wp2
            go_ret
            exact ⟨by rw [RZ.out]; rfl, hBW⟩
        · have drf := Shut.mk (decide_eq_false rf)
          replace HC : Shut (C = 3) := ⟨by rw [HC.out]; rw [mlC, if_pos (by omega)]⟩
          clear rf
          go_wp2_with fail
          refine (in_any f 0 3 _).mono ?_
          rintro e _ ⟨rfl, rfl⟩
          rw [drf.out]
          have RZ : Shut (Z = 3) := ⟨by rw [HS.out.2 (by rw [HC.out]; decide), HC.out]⟩
          clear HS
          go_wp2
          go_ret
          exact ⟨by rw [RZ.out]; rfl, hBW⟩
      · have R : Shut (Z = 0) := ⟨by rw [HN.out.2, List.drop_eq_nil_of_le (by rw [List.length_map, HX.out.1]; omega)]; rfl⟩
        clear HN
        go_wp2
        go_ret
        exact ⟨by rw [R.out]; rfl, hbr⟩

end Go.Proofs.Ythhhlampphlmgaa

/-
  Chapter 10: Send's and Take's answers, told in one way; two lists that say the same, for the reference.
-/
namespace Go.Proofs.Ythhhlampphlmgaa
open Go.RowKit
set_option linter.unusedVariables false
set_option linter.unusedSimpArgs false

/-- a list of mails in memory that says this -/
def LstIn (w : World) (l : List Ml) (L : List MMl) (p : Option Addr) : Prop := L.map MMl.m = l ∧ Lies w p (mailCells L) ∧ ∀ y ∈ L, MailIn w y ∧ MlShort y

theorem LstIn.below {w w' : World} {l : List Ml} {L : List MMl} {p : Option Addr} (h : LstIn w l L p) (hb : Below w.heap.size w w') : LstIn w' l L p :=
  ⟨h.1, h.2.1.below hb (Nat.le_refl _), fun y hy => ⟨(h.2.2 y hy).1.below hb, (h.2.2 y hy).2⟩⟩

theorem LstIn.len {w : World} {l : List Ml} {L : List MMl} {p : Option Addr} (h : LstIn w l L p) : L.length = l.length := by rw [← h.1, List.length_map]

theorem LstIn.nil (w : World) (p : Option Addr) : LstIn w [] [] p := ⟨rfl, Lies.nil _ _, fun y hy => by cases hy⟩

theorem ListNew.lst {B : Nat} {w : World} {l : List Ml} {L : List MMl} {p : Option Addr} {cp : Nat} (h : ListNew B w l L p cp) (hl : ∀ m ∈ l, m.d.length ≤ maxLen) : LstIn w l L p :=
  ⟨h.1, h.lies, fun x hx => ⟨(h.2.2 x hx).1, hl x.m (by rw [← h.1]; exact List.mem_map.2 ⟨x, hx, rfl⟩)⟩⟩

theorem refSame_lst (a b : Option Addr) (n k ca cb : Nat) (x y : List Ml) (xl yl : List MMl) (w : World) (hx : LstIn w x xl a) (hy : LstIn w y yl b) (hn : x.length = n) (hk : y.length = k) (hnm : n ≤ maxLen) (hkm : k ≤ maxLen) {z : Bool} (hz : decide (x = y) = z) :
    Calls Try.prog 11 #[.slice a n ca, .slice b k cb] w fun e w' => e = .returned (.bool z) ∧ Below w.heap.size w w' := by
  have h := refSameMail_any a b ca cb xl yl w (by rw [hx.len]; omega) (by rw [hy.len]; omega) hx.2.1 hy.2.1 hx.2.2 hy.2.2
  rw [hx.len, hy.len, hn, hk, hx.1, hy.1, hz] at h
  exact h

theorem waySame_lst (a b : Option Addr) (n k ca cb : Nat) (x y : List Ml) (xl yl : List MMl) (w : World) (hx : LstIn w x xl a) (hy : LstIn w y yl b) (hn : x.length = n) (hk : y.length = k) (hnm : n ≤ maxLen) (hkm : k ≤ maxLen) {z : Bool} (hz : decide (x = y) = z) :
    Calls Try.prog 10 #[.slice a n ca, .slice b k cb] w fun e w' => e = .returned (.bool z) ∧ Below w.heap.size w w' := by
  have h := waySame_any a b ca cb xl yl w (by rw [hx.len]; omega) (by rw [hy.len]; omega) hx.2.1 hy.2.1 hx.2.2 hy.2.2
  rw [hx.len, hy.len, hn, hk, hx.1, hy.1, hz] at h
  exact h

/-- what Send answers: the list, or none -/
def sendLs (l : List Ml) (m : Ml) : List Ml := if sendCode l m = 0 then sendL l m else []

/-- what Take answers: the list, or none -/
def takeLs (l : List Ml) (k : Int) (tw : Bool) : List Ml := if takeCode l k = 0 then takeL l k.toNat tw else []

/-- and the mail -/
def takeM (l : List Ml) (k : Int) : Ml := if takeCode l k = 0 then l[k.toNat]?.getD ml0 else ml0

theorem mem_sendL {l : List Ml} {m x : Ml} (h : x ∈ sendL l m) : x ∈ l ∨ x = m := by
  unfold sendL at h
  split at h
  · rcases List.mem_append.1 h with h | h
    · exact Or.inl h
    · exact Or.inr (by simpa using h)
  · exact Or.inl h

theorem send_uni (a : Option Addr) (l : List MMl) (c : Nat) (y : MMl) (w : World) (hl : Lies w a (mailCells l)) (hall : ∀ x ∈ l, MailIn w x ∧ MlOk x) (hc : l.length ≤ c) (hm : l.length ≤ maxLen) (hy : MailIn w y) (oy : MlOk y) :
    Calls Try.prog 5 #[.slice a l.length c, .agg #[.int .i64 y.m.f, .int .i64 y.m.t, .int .i64 y.m.k, .int .i64 y.m.h.F, .int .i64 y.m.h.Q, .int .i64 y.m.h.T, .int .i64 y.m.h.L, .int .i64 y.m.h.B, .int .i64 y.m.h.K, .int .i64 y.m.id, .slice y.da y.m.d.length y.dc, .int .i64 y.m.n, .int .i64 y.m.y]] w fun e w' => ∃ (L : List MMl) (p : Option Addr) (cp : Nat), e = .returned (.tuple #[.slice p (sendLs (l.map MMl.m) y.m).length cp, .int .i64 (sendCode (l.map MMl.m) y.m)]) ∧ Shut (LstIn w' (sendLs (l.map MMl.m) y.m) L p ∧ Below w.heap.size w w') := by
  refine (send_any a l c y w hl hall hc hm hy oy).mono ?_
  rintro e w' ⟨hR, hb⟩
  rcases hR with ⟨hz, rfl⟩ | ⟨hz, L, p, cp, rfl, hcap, hL⟩
  · have e1 : sendLs (l.map MMl.m) y.m = [] := by rw [sendLs, if_neg hz]
    rw [e1]
    exact ⟨[], none, 0, rfl, ⟨LstIn.nil _ _, hb⟩⟩
  · have e1 : sendLs (l.map MMl.m) y.m = sendL (l.map MMl.m) y.m := by rw [sendLs, if_pos hz]
    rw [e1, hz]
    refine ⟨L, p, cp, rfl, ⟨hL.lst fun m hm => ?_, hb⟩⟩
    rcases mem_sendL hm with h | rfl
    · obtain ⟨x, hx, rfl⟩ := List.mem_map.1 h
      exact (hall x hx).2.2
    · exact oy.2

theorem mem_takeL {l : List Ml} {k : Nat} {tw : Bool} {x : Ml} (h : x ∈ takeL l k tw) : x ∈ l := by
  unfold takeL at h
  split at h
  · exact h
  · exact List.mem_of_mem_eraseIdx h

theorem take_uni (a : Option Addr) (l : List MMl) (c : Nat) (k : Int) (tw : Bool) (w : World) (hl : Lies w a (mailCells l)) (hall : ∀ x ∈ l, MailIn w x ∧ MlOk x) (hc : l.length ≤ c) (hm : l.length ≤ maxLen) :
    Calls Try.prog 6 #[.slice a l.length c, .int .i64 k, .bool tw] w fun e w' => ∃ (L : List MMl) (p : Option Addr) (cp : Nat) (x : MMl), e = .returned (.tuple #[.slice p (takeLs (l.map MMl.m) k tw).length cp, .agg #[.int .i64 x.m.f, .int .i64 x.m.t, .int .i64 x.m.k, .int .i64 x.m.h.F, .int .i64 x.m.h.Q, .int .i64 x.m.h.T, .int .i64 x.m.h.L, .int .i64 x.m.h.B, .int .i64 x.m.h.K, .int .i64 x.m.id, .slice x.da x.m.d.length x.dc, .int .i64 x.m.n, .int .i64 x.m.y], .int .i64 (takeCode (l.map MMl.m) k)]) ∧ Shut (LstIn w' (takeLs (l.map MMl.m) k tw) L p ∧ x.m = takeM (l.map MMl.m) k ∧ MailIn w' x ∧ MlShort x ∧ Below w.heap.size w w') := by
  refine (take_any a l c k tw w hl hall hc hm).mono ?_
  rintro e w' ⟨hR, hb⟩
  rcases hR with ⟨hz, rfl⟩ | ⟨hz, L, p, cp, x, rfl, hcap, hL, hx, hi⟩
  · have e1 : takeLs (l.map MMl.m) k tw = [] := by rw [takeLs, if_neg hz]
    rw [e1]
    exact ⟨[], none, 0, ⟨ml0, none, 0⟩, rfl, ⟨LstIn.nil _ _, by rw [takeM, if_neg hz], emptyIn _ rfl, Nat.zero_le _, hb⟩⟩
  · have e1 : takeLs (l.map MMl.m) k tw = takeL (l.map MMl.m) k.toNat tw := by rw [takeLs, if_pos hz]
    have hmm : ∀ m ∈ l.map MMl.m, m.d.length ≤ maxLen := fun m h => by
      obtain ⟨x, hx, rfl⟩ := List.mem_map.1 h
      exact (hall x hx).2.2
    rw [e1, hz]
    exact ⟨L, p, cp, x, rfl, ⟨hL.lst fun m h => hmm m (mem_takeL h), by rw [takeM, if_pos hz, hx]; rfl, hi, hmm x.m (List.mem_of_getElem? hx), hb⟩⟩

theorem wy_one (m : Ml) : wyCode [m] = m.code := by
  rw [wyCode, if_neg (by simp), firstBad]
  split
  · rfl
  · rename_i h
    have : m.code = 0 := by simpa using h
    rw [this]; rfl

end Go.Proofs.Ythhhlampphlmgaa

/-
  Chapter 10: the last statement of WaySays, by itself: over a frame of variables.
-/
namespace Go.Proofs.Ythhhlampphlmgaa
open Go.RowKit
set_option linter.unusedVariables false
set_option linter.unusedSimpArgs false
attribute [local go_sem ↓] Go.wp_at_zero Go.wp_at_succ

theorem allocHere (w : World) (o : Obj) : (w.alloc o).heap[w.heap.size]? = some o := by rw [heap_alloc_eq, if_pos rfl]
theorem allocDrew (w : World) (o : Obj) : ((w.alloc o).drew).heap[w.heap.size]? = some o := by
  show (w.alloc o).heap[w.heap.size]? = some o
  rw [heap_alloc_eq, if_pos rfl]
theorem upDrew {w w' : World} {o : Obj} (h : Below ((w.alloc o).drew).heap.size ((w.alloc o).drew) w') : Below w.heap.size w w' := by
  have h0 : Below w.heap.size w ((w.alloc o).drew) := ((Below.refl _ _).alloc (Nat.le_refl _) _).drew
  exact h0.trans (h.mono h0.size)
theorem upAlloc {w w' : World} {o : Obj} (h : Below (w.alloc o).heap.size (w.alloc o) w') : Below w.heap.size w w' := by
  have h0 : Below w.heap.size w (w.alloc o) := (Below.refl _ _).alloc (Nat.le_refl _) _
  exact h0.trans (h.mono h0.size)
theorem cellUp {w : World} {b o : Nat} {v : Value} (h : w.cell? ⟨b, o, none⟩ = some v) (ob : Obj) : (w.alloc ob).cell? ⟨b, o, none⟩ = some v := by
  have := World.block_lt_of_cell? w _ h
  have hb : Below w.heap.size w (w.alloc ob) := (Below.refl _ _).alloc (Nat.le_refl _) _
  exact cellW h hb
theorem box13c {W : World} {g : Nat} {T : TypeId} {a0 a1 a2 a3 a4 a5 a6 a7 a8 a9 a10 a11 a12 : Value} (h : W.heap[g]? = some (.cells #[a0, a1, a2, a3, a4, a5, a6, a7, a8, a9, a10, a11, a12] T (0, 0))) :
    W.cell? ⟨g, 0, none⟩ = some a0 ∧ W.cell? ⟨g, 1, none⟩ = some a1 ∧ W.cell? ⟨g, 2, none⟩ = some a2 ∧ W.cell? ⟨g, 3, none⟩ = some a3 ∧ W.cell? ⟨g, 4, none⟩ = some a4 ∧ W.cell? ⟨g, 5, none⟩ = some a5 ∧ W.cell? ⟨g, 6, none⟩ = some a6 ∧ W.cell? ⟨g, 7, none⟩ = some a7 ∧ W.cell? ⟨g, 8, none⟩ = some a8 ∧ W.cell? ⟨g, 9, none⟩ = some a9 ∧ W.cell? ⟨g, 10, none⟩ = some a10 ∧ W.cell? ⟨g, 11, none⟩ = some a11 ∧ W.cell? ⟨g, 12, none⟩ = some a12 :=
  ⟨cellB h 0 _ rfl, cellB h 1 _ rfl, cellB h 2 _ rfl, cellB h 3 _ rfl, cellB h 4 _ rfl, cellB h 5 _ rfl, cellB h 6 _ rfl, cellB h 7 _ rfl, cellB h 8 _ rfl, cellB h 9 _ rfl, cellB h 10 _ rfl, cellB h 11 _ rfl, cellB h 12 _ rfl⟩

set_option maxHeartbeats 4000000 in
set_option maxRecDepth 16000 in
theorem lastRegion (x0 x1 x2 x3 x4 x5 x6 x7 x8 x9 x11 x12 : Int) (da : Option Addr) (dn dc : Nat) (b1 o1 n c kn gx n2 c2 nl cl : Nat) (p2 pl : Option Addr) (u1 u3 u4 u5 u6 u7 u8 u9 u10 u11 u12 u16 u17 u18 u20 u21 u22 u23 u24 u25 u26 u27 u28 u29 u30 u31 u32 u33 u34 u35 u36 u37 u38 u39 u40 u41 u42 u43 u44 u45 u46 u47 u48 u49 u50 u51 u52 u53 u54 u55 u56 u57 u58 u59 u60 u61 u62 u63 u64 u65 u66 u67 u68 u69 u70 u71 u72 u73 u74 u75 u76 u77 u78 u79 u80 u81 u82 u83 u84 u85 u86 u87 u88 u89 u90 u91 u92 u93 u94 u95 u96 u97 u98 u99 u100 u101 u102 u103 u104 u105 u106 u107 u108 u109 u110 u111 u112 u113 u114 u115 u116 u117 u118 u119 u120 u121 u122 u123 u124 u125 u126 u127 u128 u129 u130 u131 u132 u133 u134 u135 u136 u137 u138 u139 u140 u141 u142 u143 u144 : Value) (U5 : World) (K : Act → World → Prop) (P : Ending → World → Prop) (hc : n ≤ c) (hkn : kn < n) (hn : n ≤ 40)
    (C1 : Shut (∀ (u : World) (g : Nat), Below U5.heap.size U5 u → u.heap[g]? = some (.cells #[.int .i64 x0, .int .i64 x1, .int .i64 x2, .int .i64 x3, .int .i64 x4, .int .i64 x5, .int .i64 x6, .int .i64 x7, .int .i64 x8, .int .i64 x9, .slice da dn dc, .int .i64 x11, .int .i64 x12] 34 (0, 0)) → Calls Try.prog 11 #[.slice (some ⟨g, 0, none⟩) 1 1, .slice (some ⟨b1, o1 + kn * 13, none⟩) 1 (c - kn)] u fun e w' => e = .returned (.bool true) ∧ Below u.heap.size u w'))
    (C2 : Shut (∀ u : World, Below U5.heap.size U5 u → Calls Try.prog 11 #[.slice p2 n2 c2, .slice pl nl cl] u fun e w' => e = .returned (.bool true) ∧ Below u.heap.size u w'))
    (H5X : Shut (U5.heap[gx]? = some (.cells #[.int .i64 x0, .int .i64 x1, .int .i64 x2, .int .i64 x3, .int .i64 x4, .int .i64 x5, .int .i64 x6, .int .i64 x7, .int .i64 x8, .int .i64 x9, .slice da dn dc, .int .i64 x11, .int .i64 x12] 34 (0, 0))))
    (hK : Shut (∀ (w' : World) (v128 v129 v130 v131 v132 v133 v134 v135 v136 v137 v138 v139 v140 v141 v142 v143 v144 : Value), Below U5.heap.size U5 w' → K ⟨#[.slice (some ⟨b1, o1, none⟩) n c, u1, .int .i64 (kn : Int), u3, u4, u5, u6, u7, u8, u9, .bool true, u11, u12, .slice p2 n2 c2, .pointer (some ⟨gx, 0, none⟩), .int .i64 0, u16, u17, u18, .slice pl nl cl, u20, u21, u22, u23, u24, u25, u26, u27, u28, u29, u30, u31, u32, u33, u34, u35, u36, u37, u38, u39, u40, u41, u42, u43, u44, u45, u46, u47, u48, u49, u50, u51, u52, u53, u54, u55, u56, u57, u58, u59, u60, u61, u62, u63, u64, u65, u66, u67, u68, u69, u70, u71, u72, u73, u74, u75, u76, u77, u78, u79, u80, u81, u82, u83, u84, u85, u86, u87, u88, u89, u90, u91, u92, u93, u94, u95, u96, u97, u98, u99, u100, u101, u102, u103, u104, u105, u106, u107, u108, u109, u110, u111, u112, u113, u114, u115, u116, u117, u118, u119, u120, u121, u122, u123, u124, u125, u126, u127, v128, v129, v130, v131, v132, v133, v134, v135, v136, v137, v138, v139, v140, v141, v142, v143, v144], []⟩ w')) :
    Code.wp Try.prog (Code.region 21 #[{ dst := some 128, op := Op.move (Operand.tmp 15), type := 35, pos := "law7.go:294", after := #[], guard := none },
 { dst := some 129, op := Op.binOp BinOp.eql 35 (Operand.tmp 128) (Operand.const (Value.int IntKind.i64 0)) 35, type := 4, pos := "law7.go:294", after := #[{ on := 0, ground := Ground.data }], guard := none },
 { dst := some 130, op := Op.move (Operand.tmp 129), type := 4, pos := "law7.go:294", after := #[{ on := 1, ground := Ground.data }], guard := none },
 { dst := some 131, op := Op.load 34 (Operand.tmp 14), type := 34, pos := "law7.go:294", after := #[{ on := 2, ground := Ground.guard }], guard := some (2, true) },
 { dst := some 132, op := Op.buildSlice 22 1 #[(0, Operand.tmp 131)], type := 22, pos := "law7.go:294", after := #[{ on := 3, ground := Ground.data }, { on := 2, ground := Ground.guard }], guard := some (2, true) },
 { dst := some 133, op := Op.move (Operand.tmp 0), type := 22, pos := "law7.go:294", after := #[{ on := 2, ground := Ground.guard }], guard := some (2, true) },
 { dst := some 134, op := Op.move (Operand.tmp 2), type := 3, pos := "law7.go:294", after := #[{ on := 2, ground := Ground.guard }], guard := some (2, true) },
 { dst := some 135, op := Op.move (Operand.tmp 2), type := 3, pos := "law7.go:294", after := #[{ on := 2, ground := Ground.guard }], guard := some (2, true) },
 { dst := some 136, op := Op.binOp BinOp.add 3 (Operand.tmp 135) (Operand.const (Value.int IntKind.i64 1)) 3, type := 3, pos := "law7.go:294", after := #[{ on := 7, ground := Ground.data }, { on := 2, ground := Ground.guard }], guard := some (2, true) },
 { dst := some 137, op := Op.slice 22 (Operand.tmp 133) (some (Operand.tmp 134)) (some (Operand.tmp 136)) none, type := 22, pos := "law7.go:294", after := #[{ on := 5, ground := Ground.data }, { on := 6, ground := Ground.data }, { on := 8, ground := Ground.data }, { on := 2, ground := Ground.guard }], guard := some (2, true) },
 { dst := some 138, op := Op.call { callee := Callee.value (Operand.func 11), args := #[Operand.tmp 132, Operand.tmp 137], argTypes := #[22, 22] }, type := 4, pos := "law7.go:294", after := #[{ on := 4, ground := Ground.data }, { on := 9, ground := Ground.data }, { on := 2, ground := Ground.chain }, { on := 2, ground := Ground.guard }], guard := some (2, true) },
 { dst := some 139, op := Op.pick (Operand.tmp 130) (Operand.tmp 138) (Operand.const (Value.bool false)), type := 4, pos := "law7.go:294", after := #[{ on := 2, ground := Ground.data }, { on := 10, ground := Ground.data }], guard := none },
 { dst := some 140, op := Op.move (Operand.tmp 139), type := 4, pos := "law7.go:294", after := #[{ on := 11, ground := Ground.data }, { on := 10, ground := Ground.chain }], guard := none },
 { dst := some 141, op := Op.move (Operand.tmp 13), type := 22, pos := "law7.go:294", after := #[{ on := 12, ground := Ground.guard }], guard := some (12, true) },
 { dst := some 142, op := Op.move (Operand.tmp 19), type := 22, pos := "law7.go:294", after := #[{ on := 12, ground := Ground.guard }], guard := some (12, true) },
 { dst := some 143, op := Op.call { callee := Callee.value (Operand.func 11), args := #[Operand.tmp 141, Operand.tmp 142], argTypes := #[22, 22] }, type := 4, pos := "law7.go:294", after := #[{ on := 13, ground := Ground.data }, { on := 14, ground := Ground.data }, { on := 12, ground := Ground.chain }, { on := 12, ground := Ground.guard }], guard := some (12, true) },
 { dst := some 144, op := Op.pick (Operand.tmp 140) (Operand.tmp 143) (Operand.const (Value.bool false)), type := 4, pos := "law7.go:294", after := #[{ on := 12, ground := Ground.data }, { on := 15, ground := Ground.data }], guard := none },
 { dst := some 10, op := Op.assign (Operand.tmp 144), type := 4, pos := "law7.go:294", after := #[{ on := 16, ground := Ground.data }, { on := 15, ground := Ground.chain }, { on := 0, ground := Ground.phase }, { on := 1, ground := Ground.phase }, { on := 2, ground := Ground.phase }, { on := 3, ground := Ground.phase }, { on := 4, ground := Ground.phase }, { on := 5, ground := Ground.phase }, { on := 6, ground := Ground.phase }, { on := 7, ground := Ground.phase }, { on := 8, ground := Ground.phase }, { on := 9, ground := Ground.phase }, { on := 10, ground := Ground.phase }, { on := 11, ground := Ground.phase }, { on := 12, ground := Ground.phase }, { on := 13, ground := Ground.phase }, { on := 14, ground := Ground.phase }, { on := 15, ground := Ground.phase }, { on := 16, ground := Ground.phase }], guard := none }] true) (Exit.then K (bodyPost Try.prog Try.f3 P)) ⟨#[.slice (some ⟨b1, o1, none⟩) n c, u1, .int .i64 (kn : Int), u3, u4, u5, u6, u7, u8, u9, u10, u11, u12, .slice p2 n2 c2, .pointer (some ⟨gx, 0, none⟩), .int .i64 0, u16, u17, u18, .slice pl nl cl, u20, u21, u22, u23, u24, u25, u26, u27, u28, u29, u30, u31, u32, u33, u34, u35, u36, u37, u38, u39, u40, u41, u42, u43, u44, u45, u46, u47, u48, u49, u50, u51, u52, u53, u54, u55, u56, u57, u58, u59, u60, u61, u62, u63, u64, u65, u66, u67, u68, u69, u70, u71, u72, u73, u74, u75, u76, u77, u78, u79, u80, u81, u82, u83, u84, u85, u86, u87, u88, u89, u90, u91, u92, u93, u94, u95, u96, u97, u98, u99, u100, u101, u102, u103, u104, u105, u106, u107, u108, u109, u110, u111, u112, u113, u114, u115, u116, u117, u118, u119, u120, u121, u122, u123, u124, u125, u126, u127, u128, u129, u130, u131, u132, u133, u134, u135, u136, u137, u138, u139, u140, u141, u142, u143, u144], []⟩ U5 := by
  have hw1 : IntKind.i64.wrap ((kn : Int) + 1) = (kn : Int) + 1 := by rw [IntKind.wrap_i64]; omega
  have g1 : ((kn : Int) + 1).toNat = kn + 1 := by omega
  have g2 : kn ≤ c := by omega
  have g3 : kn + 1 ≤ n := by omega
  have g4 : (kn : Int) + 1 ≤ (c : Int) := by omega
  have g5 : ¬ (c : Int) < (kn : Int) + 1 := by omega
  have g6 : kn + 1 - kn = 1 := by omega
  have g7 : ¬ c = kn := by omega
  have g8 : ¬ (kn : Int) + 1 < (kn : Int) := by omega
  have g9 : ¬ (kn : Int) < 0 := by omega
  have g10 : ¬ (kn : Int) + 1 < 0 := by omega
  have g11 : kn + 1 ≤ c := by omega
  have g12 : kn ≤ kn + 1 := by omega
  have g13 : (0 : Int) ≤ (kn : Int) := by omega
  have g14 : (kn : Int) ≤ (kn : Int) + 1 := by omega
  have g15 : (0 : Int) ≤ (kn : Int) + 1 := by omega
  have g16 : (kn : Int) + 1 ≤ (n : Int) := by omega
  obtain ⟨q0, q1, q2, q3, q4, q5, q6, q7, q8, q9, q10, q11, q12⟩ := box13c H5X.out
  go_region_held3? (fun w' => w'.cell? ⟨gx, 0, none⟩ = some (.int .i64 x0) ∧ w'.cell? ⟨gx, 1, none⟩ = some (.int .i64 x1) ∧ w'.cell? ⟨gx, 2, none⟩ = some (.int .i64 x2) ∧ w'.cell? ⟨gx, 3, none⟩ = some (.int .i64 x3) ∧ w'.cell? ⟨gx, 4, none⟩ = some (.int .i64 x4) ∧ w'.cell? ⟨gx, 5, none⟩ = some (.int .i64 x5) ∧ w'.cell? ⟨gx, 6, none⟩ = some (.int .i64 x6) ∧ w'.cell? ⟨gx, 7, none⟩ = some (.int .i64 x7) ∧ w'.cell? ⟨gx, 8, none⟩ = some (.int .i64 x8) ∧ w'.cell? ⟨gx, 9, none⟩ = some (.int .i64 x9) ∧ w'.cell? ⟨gx, 10, none⟩ = some (.slice da dn dc) ∧ w'.cell? ⟨gx, 11, none⟩ = some (.int .i64 x11) ∧ w'.cell? ⟨gx, 12, none⟩ = some (.int .i64 x12)) (first | exact ⟨by assumption, by assumption, by assumption, by assumption, by assumption, by assumption, by assumption, by assumption, by assumption, by assumption, by assumption, by assumption, by assumption⟩ | exact ⟨cellUp (by assumption) _, cellUp (by assumption) _, cellUp (by assumption) _, cellUp (by assumption) _, cellUp (by assumption) _, cellUp (by assumption) _, cellUp (by assumption) _, cellUp (by assumption) _, cellUp (by assumption) _, cellUp (by assumption) _, cellUp (by assumption) _, cellUp (by assumption) _, cellUp (by assumption) _⟩) (first | (have hk0 := hkk; go_at_call 11; refine (C2.out _ hk0).mono ?_; rintro e wj ⟨rfl, hbj⟩; have hF2 : Below U5.heap.size U5 wj := hk0.trans (hbj.mono hk0.size); obtain ⟨q0, q1, q2, q3, q4, q5, q6, q7, q8, q9, q10, q11, q12⟩ := box13c (blkB H5X.out hF2)) | (go_at_call 11; refine (C1.out _ _ (by first | with_reducible exact ((Below.refl _ _).alloc (Nat.le_refl _) _).drew | with_reducible exact ((Below.refl _ _).drew).alloc (Nat.le_refl _) _ | with_reducible exact (Below.refl _ _).alloc (Nat.le_refl _) _) (by first | with_reducible exact allocHere _ _ | with_reducible exact allocDrew _ _)).mono ?_; rintro e wk ⟨rfl, hbk⟩; have hkk : Below U5.heap.size U5 wk := (by first | with_reducible exact upDrew hbk | with_reducible exact upAlloc hbk); obtain ⟨q0, q1, q2, q3, q4, q5, q6, q7, q8, q9, q10, q11, q12⟩ := box13c (blkB H5X.out hkk)))
  all_goals exact hK.out _ _ _ _ _ _ _ _ _ _ _ _ _ _ _ _ _ _ hF2

end Go.Proofs.Ythhhlampphlmgaa

/-
  A call of a Go function as one step of a region that draws its order.
-/
namespace Go.Proofs.Ythhhlampphlmgaa
open Go.RowKit
set_option linter.unusedVariables false
set_option linter.unusedSimpArgs false

/-- a call of one argument, as one step of a region that draws its order -/
theorem step_call1 {f : FuncId} {ops : Array Oper} {o : Oper} {a : Act} {w : World} {K : Act → World → Prop} {Q : Exit → Act → World → Prop} {E : Prop} {R : Value → World → Prop} (eg : ∀ args w, (callFunc f args).run Try.prog w = .ok (.enter f args) w) (hgd : o.guard = none) (arg : Operand) (ty : TypeId)
    (ho : o.op = .call { callee := .value (.func f), args := #[arg], argTypes := #[ty] }) (v : Value) (hv : a.eval arg = v) (hc : Calls Try.prog f #[v] w fun e w' => ∃ x, e = .returned x ∧ R x w') (h : ∀ x w', R x w' → K (a.put o.dst x) w') :
    if Region.wanted o (yielded ops a.tmps) = true then Oper.wp Try.prog o a w K Q else E := by
  rw [if_pos (by simp [Region.wanted, hgd])]
  have hrun : (execOp a.eval o).run Try.prog w = .ok (.enter f #[v]) w := by
    have hf : a.eval (.func f) = .func (.func f) #[] #[] := rfl
    simp [execOp, ho, resolve, hf, eg, go_sem, invoke]
    cases arg <;> simpa [Act.eval] using hv
  unfold Oper.wp
  rw [hrun, Oper.upon_enter]
  refine hc.mono ?_
  rintro e w' ⟨x, rfl, hr⟩
  exact h x w' hr

theorem step_call2 {f : FuncId} {ops : Array Oper} {o : Oper} {a : Act} {w : World} {K : Act → World → Prop} {Q : Exit → Act → World → Prop} {E : Prop} {R : Value → World → Prop} (eg : ∀ args w, (callFunc f args).run Try.prog w = .ok (.enter f args) w) (hgd : o.guard = none) (arg arg2 : Operand) (ty ty2 : TypeId)
    (ho : o.op = .call { callee := .value (.func f), args := #[arg, arg2], argTypes := #[ty, ty2] }) (v v2 : Value) (hv : a.eval arg = v) (hv2 : a.eval arg2 = v2) (hc : Calls Try.prog f #[v, v2] w fun e w' => ∃ x, e = .returned x ∧ R x w') (h : ∀ x w', R x w' → K (a.put o.dst x) w') :
    if Region.wanted o (yielded ops a.tmps) = true then Oper.wp Try.prog o a w K Q else E := by
  rw [if_pos (by simp [Region.wanted, hgd])]
  have hrun : (execOp a.eval o).run Try.prog w = .ok (.enter f #[v, v2]) w := by
    have hf : a.eval (.func f) = .func (.func f) #[] #[] := rfl
    simp [execOp, ho, resolve, hf, eg, go_sem, invoke]
    refine ⟨?_, ?_⟩
    · cases arg <;> simpa [Act.eval] using hv
    · cases arg2 <;> simpa [Act.eval] using hv2
  unfold Oper.wp
  rw [hrun, Oper.upon_enter]
  refine hc.mono ?_
  rintro e w' ⟨x, rfl, hr⟩
  exact h x w' hr

end Go.Proofs.Ythhhlampphlmgaa
