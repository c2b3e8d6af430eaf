/-
  Chapter 7, the reference: CheckRec, where its parts fit its kind.
-/
import Derived.Test.YtcpnbkgkknlocaaDoorNote6
import Derived.Test.YtcpnbkgkknlocaaDoorCode1
import Derived.Deep.CutBlock
namespace Go.Proofs.YtcpnbkgkknlocaaDoor
open Go.RowKit Go.Maps
set_option linter.unusedVariables false
set_option linter.unusedSimpArgs false

theorem cellW {w w' : World} {b j : Nat} {v : Value} (h : w.cell? ⟨b, j, none⟩ = some v) (hb : Below w.heap.size w w') : w'.cell? ⟨b, j, none⟩ = some v := by
  have hh : w'.heap[b]? = w.heap[b]? := hb.block b (by
    rcases Nat.lt_or_ge b w.heap.size with h1 | h1
    · exact h1
    · simp [World.cell?, Array.getElem?_eq_none h1] at h)
  simp only [World.cell?] at h ⊢
  rw [hh]
  exact h

/-- what CheckRec answers where the parts fit the kind -/
def restCode (u : List UInt8) (p n y : Int) (h : Hd) (id : Int) (dn cn : Nat) : Int :=
  if ¬ ((0 ≤ p ∧ p ≤ 3) ∧ (0 ≤ y ∧ y ≤ 9999) ∧ (0 ≤ n ∧ n ≤ 1000000)) then 3
  else
    let e1 := if hasB u 72 then hdCode h else 0
    let e2 := if e1 = 0 ∧ hasB u 83 then chkS h.B h.K id dn else e1
    if e2 = 0 ∧ hasB u 67 ∧ (cn : Int) ≠ h.B then 4 else e2

set_option maxHeartbeats 2000000 in
set_option maxRecDepth 8000 in
theorem checkRec_good (k p n y : Int) (h : Hd) (id : Int) (da : Option Addr) (dn dc : Nat) (ca : Option Addr) (cn cc : Nat) (u : List UInt8) (w : World) (hk : (Lit.int .i64 k).wf = true) (hu : usesL k = some u) (hgood : formB u p n y h id dn cn = true) (ho : h.ok) (hp : I64 p) (hn : I64 n) (hy : I64 y) (hdn : dn ≤ maxLen) :
    Calls Tryd.prog 20 #[.agg #[.int .i64 k, .int .i64 p, .int .i64 n, .int .i64 y, .int .i64 h.F, .int .i64 h.Q, .int .i64 h.T, .int .i64 h.L, .int .i64 h.B, .int .i64 h.K, .int .i64 id, .slice da dn dc, .slice ca cn cc]] w fun e w' => e = .returned (.int .i64 (restCode u p n y h id dn cn)) ∧ Below w.heap.size w w' := by
  obtain ⟨F, Q, T, L, B, K⟩ := h
  simp only
  obtain ⟨W, hW⟩ : ∃ W, w.alloc (.cells #[.int .i64 k, .int .i64 p, .int .i64 n, .int .i64 y, .int .i64 F, .int .i64 Q, .int .i64 T, .int .i64 L, .int .i64 B, .int .i64 K, .int .i64 id, .slice da dn dc, .slice ca cn cc] 31) = W := ⟨_, rfl⟩
  have hBl : Below w.heap.size w W := by rw [← hW]; exact (Below.refl _ _).alloc (Nat.le_refl _) _
  have hbk : W.heap[w.heap.size]? = some (.cells #[.int .i64 k, .int .i64 p, .int .i64 n, .int .i64 y, .int .i64 F, .int .i64 Q, .int .i64 T, .int .i64 L, .int .i64 B, .int .i64 K, .int .i64 id, .slice da dn dc, .slice ca cn cc] 31 (0, 0)) := by rw [← hW, heap_alloc_eq, if_pos rfl]
  have hsz : w.heap.size < W.heap.size := by rw [← hW]; simp
  have hmm := @run_makeMap Tryd.prog
  obtain ⟨w1, w2, w3, w4, w5, w6, w7, w8, r1, r2, r3, r4, r5, r6, r7, r8, hown, hb8⟩ := table_run W
  obtain ⟨s, hlk, hs⟩ := lookK hown k hk
  rw [hu] at hlk hs
  simp only [Option.getD_some] at hs
  subst hs
  have c0 : w8.cell? ⟨w.heap.size, 0, none⟩ = some (.int .i64 k) := cellB (blkB hbk hb8) 0 _ rfl
  have hB8 := hBl.trans (hb8.mono hBl.size)
  have hbk8 := blkB hbk hb8
  simp only [Option.isSome_some] at hlk
  clear hown hbk hBl
  obtain ⟨W2, hW2⟩ : ∃ W2, (w8.alloc (.cells #[.string s] 9)).alloc (.cells #[.func (.func 45) #[] #[.pointer (some ⟨w8.heap.size, 0, none⟩)]] 84) = W2 := ⟨_, rfl⟩
  have hF : Below w.heap.size w W2 := by rw [← hW2]; exact (hB8.alloc hB8.size _).alloc (by have := hB8.size; simp; omega) _
  have h82 : Below w8.heap.size w8 W2 := by rw [← hW2]; exact ((Below.refl _ _).alloc (Nat.le_refl _) _).alloc (by simp) _
  have hbk2 := blkB hbk8 h82
  have hub : W2.cell? ⟨w8.heap.size, 0, none⟩ = some (.string s) := by
    refine cellB (c := #[.string s]) (t := 9) (f := (0, 0)) ?_ 0 _ rfl
    rw [← hW2, heap_alloc_eq, if_neg (by simp), heap_alloc_eq, if_pos rfl]
  have hfb : W2.cell? ⟨w8.heap.size + 1, 0, none⟩ = some (.func (.func 45) #[] #[.pointer (some ⟨w8.heap.size, 0, none⟩)]) := by
    refine cellB (c := #[.func (.func 45) #[] #[.pointer (some ⟨w8.heap.size, 0, none⟩)]]) (t := 84) (f := (0, 0)) ?_ 0 _ rfl
    rw [← hW2, heap_alloc_eq, if_pos (by simp)]
  have q1 : W2.cell? ⟨w.heap.size, 1, none⟩ = some (.int .i64 p) := cellB hbk2 1 _ rfl
  have q2 : W2.cell? ⟨w.heap.size, 2, none⟩ = some (.int .i64 n) := cellB hbk2 2 _ rfl
  have q3 : W2.cell? ⟨w.heap.size, 3, none⟩ = some (.int .i64 y) := cellB hbk2 3 _ rfl
  have q4 : W2.cell? ⟨w.heap.size, 4, none⟩ = some (.int .i64 F) := cellB hbk2 4 _ rfl
  have q5 : W2.cell? ⟨w.heap.size, 5, none⟩ = some (.int .i64 Q) := cellB hbk2 5 _ rfl
  have q6 : W2.cell? ⟨w.heap.size, 6, none⟩ = some (.int .i64 T) := cellB hbk2 6 _ rfl
  have q7 : W2.cell? ⟨w.heap.size, 7, none⟩ = some (.int .i64 L) := cellB hbk2 7 _ rfl
  have q8 : W2.cell? ⟨w.heap.size, 8, none⟩ = some (.int .i64 B) := cellB hbk2 8 _ rfl
  have q9 : W2.cell? ⟨w.heap.size, 9, none⟩ = some (.int .i64 K) := cellB hbk2 9 _ rfl
  have q10 : W2.cell? ⟨w.heap.size, 10, none⟩ = some (.int .i64 id) := cellB hbk2 10 _ rfl
  have q11 : W2.cell? ⟨w.heap.size, 11, none⟩ = some (.slice da dn dc) := cellB hbk2 11 _ rfl
  have q12 : W2.cell? ⟨w.heap.size, 12, none⟩ = some (.slice ca cn cc) := cellB hbk2 12 _ rfl
  have hE : ∀ W, (binOp .eql 25 (.agg #[.int .i64 F, .int .i64 Q, .int .i64 T, .int .i64 L, .int .i64 B, .int .i64 K]) (.agg #[.int .i64 0, .int .i64 0, .int .i64 0, .int .i64 0, .int .i64 0, .int .i64 0])).run Tryd.prog W = .ok (.bool (decide ((⟨F, Q, T, L, B, K⟩ : Hd) = ⟨0, 0, 0, 0, 0, 0⟩))) W := fun W => eqlHead ⟨F, Q, T, L, B, K⟩ ⟨0, 0, 0, 0, 0, 0⟩ W
  generalize hz4 : decide ((⟨F, Q, T, L, B, K⟩ : Hd) = ⟨0, 0, 0, 0, 0, 0⟩) = z4 at hE
  have eg := entersRec2
  have hx := hgood
  simp only [formB, Bool.and_eq_true] at hx
  obtain ⟨⟨⟨⟨⟨hx1, hx2⟩, hx3⟩, hx4⟩, hx5⟩, hx6⟩ := hx
  have hz : (hasB s.data.toList 72 || z4) = true := by rw [← hz4]; exact hx4
  go_enter Tryd.func20, Tryd.ntmps20
  go_upto_region 4 with fail
  go_cut [77] from 18 to 77 (fun s77 wc => s77 = .bool false ∧ W2 = wc)
  case first =>
    clear r1 r2 r3 r4 r5 r6 r7 r8 hmm hlk hb8 hB8 hbk8 h82 hbk2 c0 hW hW2 hsz
    go_wp2_with fail
    refine (checkRec2_any s 80 (p == 0) w8.heap.size (w8.heap.size + 1) W2 hub hfb).mono ?_
    rintro e _ ⟨rfl, rfl⟩
    rw [hx1]
    go_wp2_with fail
    refine (checkRec2_any s 78 (n == 0) w8.heap.size (w8.heap.size + 1) W2 hub hfb).mono ?_
    rintro e _ ⟨rfl, rfl⟩
    rw [hx2]
    go_wp2_with fail
    refine (checkRec2_any s 84 (y == 0) w8.heap.size (w8.heap.size + 1) W2 hub hfb).mono ?_
    rintro e _ ⟨rfl, rfl⟩
    rw [hx3]
    go_wp2_with fail
    refine (checkRec2_any s 72 z4 w8.heap.size (w8.heap.size + 1) W2 hub hfb).mono ?_
    rintro e _ ⟨rfl, rfl⟩
    rw [hz]
    go_wp2_with fail
    · have hid : id = 0 := by assumption
      subst hid
      have h5 : (hasB s.data.toList 83 || (dn : Int) == 0) = true := by simpa using hx5
      refine (checkRec2_any s 83 ((dn : Int) == 0) w8.heap.size (w8.heap.size + 1) W2 hub hfb).mono ?_
      rintro e _ ⟨rfl, rfl⟩
      rw [h5]
      go_wp2_with fail
      refine (checkRec2_any s 67 ((cn : Int) == 0) w8.heap.size (w8.heap.size + 1) W2 hub hfb).mono ?_
      rintro e _ ⟨rfl, rfl⟩
      rw [hx6]
      go_wp2_with fail
      go_meet
      exact ⟨rfl, rfl⟩
    · have hid : ¬ id = 0 := by assumption
      have h5 : (hasB s.data.toList 83 || false) = true := by simpa [hid] using hx5
      refine (checkRec2_any s 83 false w8.heap.size (w8.heap.size + 1) W2 hub hfb).mono ?_
      rintro e _ ⟨rfl, rfl⟩
      rw [h5]
      go_wp2_with fail
      refine (checkRec2_any s 67 ((cn : Int) == 0) w8.heap.size (w8.heap.size + 1) W2 hub hfb).mono ?_
      rintro e _ ⟨rfl, rfl⟩
      rw [hx6]
      go_wp2_with fail
      go_meet
      exact ⟨rfl, rfl⟩
  case rest =>
    obtain ⟨rfl, rfl⟩ := hcut
    clear r1 r2 r3 r4 r5 r6 r7 r8 hmm hlk hb8 hB8 hbk8 h82 hbk2 c0 hW hW2 hsz
    go_wp2_with fail
    refine (in_any p 0 3 _).mono ?_
    rintro e _ ⟨rfl, rfl⟩
    by_cases g1 : 0 ≤ p ∧ p ≤ 3
    rotate_left
    · rw [decide_eq_false g1]
      go_wp2
      go_ret
      exact ⟨by rw [restCode, if_pos (fun hh => g1 hh.1)]; rfl, hF⟩
    rw [decide_eq_true g1]
    go_wp2_with fail
    refine (in_any y 0 9999 _).mono ?_
    rintro e _ ⟨rfl, rfl⟩
    by_cases g2 : 0 ≤ y ∧ y ≤ 9999
    rotate_left
    · rw [decide_eq_false g2]
      go_wp2
      go_ret
      exact ⟨by rw [restCode, if_pos (fun hh => g2 hh.2.1)]; rfl, hF⟩
    rw [decide_eq_true g2]
    go_wp2_with fail
    refine (in_any n 0 1000000 _).mono ?_
    rintro e _ ⟨rfl, rfl⟩
    by_cases g3 : 0 ≤ n ∧ n ≤ 1000000
    rotate_left
    · rw [decide_eq_false g3]
      go_wp2
      go_ret
      exact ⟨by rw [restCode, if_pos (fun hh => g3 hh.2.2)]; rfl, hF⟩
    rw [decide_eq_true g3]
    have eg1 := entersRec1
    go_wp2_with fail
    refine (checkRec1_any s 72 w8.heap.size W2 hub).mono ?_
    rintro e _ ⟨rfl, rfl⟩
    generalize hb7 : hasB s.data.toList 72 = b7
    go_upto_if 95 with fail
    go_cut [7] from 96 to 98 (fun s7 wc => s7 = .int .i64 (if b7 = true then hdCode ⟨F, Q, T, L, B, K⟩ else 0) ∧ Shut (Below W2.heap.size W2 wc))
    case first =>
      cases b7
      · go_wp2_with fail
        go_meet
        exact ⟨rfl, ⟨Below.refl _ _⟩⟩
      · go_wp2_with fail
        refine (checkHead_any ⟨F, Q, T, L, B, K⟩ W2 ho).mono ?_
        rintro e w9 ⟨rfl, hb9⟩
        go_wp2_with fail
        go_meet
        exact ⟨rfl, ⟨hb9⟩⟩
    case rest =>
      obtain ⟨rfl, HB⟩ := hcut
      have hb9 := HB.out
      clear HB
      replace hub := cellW hub hb9
      replace hfb := cellW hfb hb9
      replace q4 := cellW q4 hb9
      replace q5 := cellW q5 hb9
      replace q6 := cellW q6 hb9
      replace q7 := cellW q7 hb9
      replace q8 := cellW q8 hb9
      replace q9 := cellW q9 hb9
      replace q10 := cellW q10 hb9
      replace q11 := cellW q11 hb9
      replace q12 := cellW q12 hb9
      replace hF := hF.trans (hb9.mono hF.size)
      clear q1 q2 q3 hb9
      generalize he1 : (if b7 = true then hdCode ⟨F, Q, T, L, B, K⟩ else 0) = e1
      by_cases g4 : e1 = 0
      · subst g4
        go_wp2_with fail
        refine (checkRec1_any s 83 w8.heap.size wc hub).mono ?_
        rintro e _ ⟨rfl, rfl⟩
        generalize hb8 : hasB s.data.toList 83 = b8
        go_upto_if 104 with fail
        go_cut [7] from 105 to 110 (fun s7 wd => s7 = .int .i64 (if b8 = true then chkS B K id dn else 0) ∧ Shut (Below wc.heap.size wc wd))
        case first =>
          cases b8
          · go_wp2_with fail
            go_meet
            exact ⟨rfl, ⟨Below.refl _ _⟩⟩
          · go_wp2_with fail
            refine (checkSymbol_any B K id da dn dc wc ho.2.2.2.2.1 ho.2.2.2.2.2 hdn).mono ?_
            rintro e w9 ⟨rfl, hb9⟩
            go_wp2_with fail
            go_meet
            exact ⟨rfl, ⟨hb9⟩⟩
        case rest =>
          obtain ⟨rfl, HB⟩ := hcut
          have hb9 := HB.out
          clear HB
          replace hub := cellW hub hb9
          replace hfb := cellW hfb hb9
          replace q8 := cellW q8 hb9
          replace q9 := cellW q9 hb9
          replace q12 := cellW q12 hb9
          replace hF := hF.trans (hb9.mono hF.size)
          clear q4 q5 q6 q7 q10 q11 hb9
          generalize he2 : (if b8 = true then chkS B K id dn else 0) = e2
          have hR : restCode s.data.toList p n y ⟨F, Q, T, L, B, K⟩ id dn cn = if e2 = 0 ∧ hasB s.data.toList 67 ∧ (cn : Int) ≠ B then 4 else e2 := by
            rw [restCode, if_neg (fun hh => hh ⟨g1, g2, g3⟩)]
            simp only [hb7, he1, hb8, true_and, he2]
          by_cases g5 : e2 = 0
          · subst g5
            go_wp2_with fail
            refine (checkRec1_any s 67 w8.heap.size _ hub).mono ?_
            rintro e _ ⟨rfl, rfl⟩
            generalize hb9 : hasB s.data.toList 67 = b9 at hR ⊢
            cases b9
            · go_wp2_with fail
              go_ret
              exact ⟨by rw [hR]; rfl, hF⟩
            · by_cases g6 : (cn : Int) = B
              · go_wp2_with fail
                go_ret
                exact ⟨by rw [hR]; simp [g6], hF⟩
              · go_wp2_with fail
                go_ret
                exact ⟨by rw [hR]; simp [g6], hF⟩
          · go_wp2_with fail
            go_ret
            exact ⟨by rw [hR]; simp [g5], hF⟩
      · go_wp2_with fail
        go_ret
        refine ⟨?_, hF⟩
        rw [restCode, if_neg (fun hh => hh ⟨g1, g2, g3⟩)]
        simp only [hb7, he1, g4]
        simp [g4]

end Go.Proofs.YtcpnbkgkknlocaaDoor
