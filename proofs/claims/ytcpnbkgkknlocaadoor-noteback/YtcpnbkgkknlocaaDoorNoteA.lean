/-
  Chapter 7: package note's Head and Check.
-/
import Derived.Test.YtcpnbkgkknlocaaDoorNote9
namespace Go.Proofs.YtcpnbkgkknlocaaDoor
open Go.RowKit
set_option linter.unusedVariables false
set_option linter.unusedSimpArgs false

set_option maxRecDepth 8000 in
theorem head_any (h : Hd) (w : World) (ho : h.ok) :
    Calls Tryd.prog 9 #[h.val] w fun e w' => e = .returned (.int .i64 (hdCode h)) ∧ Below w.heap.size w w' := by
  obtain ⟨F, Q, T, L, B, K⟩ := h
  obtain ⟨oF, oQ, oT, oL, oB, oK⟩ := ho
  simp only [Hd.val] at *
  have hBl : Below w.heap.size w (w.alloc (.cells #[.int .i64 F, .int .i64 Q, .int .i64 T, .int .i64 L, .int .i64 B, .int .i64 K] 25)) := (Below.refl _ _).alloc (Nat.le_refl _) _
  by_cases h1 : 0 ≤ F ∧ F ≤ 3
  · by_cases h2 : 0 ≤ T ∧ T ≤ 3
    · by_cases h3 : 0 ≤ Q ∧ Q ≤ 49
      · by_cases h4 : 1 ≤ L ∧ L ≤ 1000000
        · have d1 := Shut.mk (decide_eq_true h1)
          have d2 := Shut.mk (decide_eq_true h2)
          have d3 := Shut.mk (decide_eq_true h3)
          have d4 := Shut.mk (decide_eq_true h4)
          have hf : (⟨F, Q, T, L, B, K⟩ : Hd).fits := ⟨h1, h2, h3, h4⟩
          by_cases h5 : F = T
          · have hc : hdCode ⟨F, Q, T, L, B, K⟩ = 5 := by rw [hdCode, if_neg (by simp [hf]), if_pos h5]
            have HC := Shut.mk hc
            have h5' : (F == T) = true := by simpa using h5
            clear h1 h2 h3 h4 hf hc h5
            go_enter Tryd.func9, Tryd.ntmps9
            go_wp2_with fail
            refine (within_any F 0 3 _).mono ?_
            rintro e w2 ⟨rfl, rfl⟩
            rw [d1.out]
            go_wp2_with fail
            refine (within_any T 0 3 _).mono ?_
            rintro e w2 ⟨rfl, rfl⟩
            rw [d2.out]
            go_wp2_with fail
            refine (within_any Q 0 49 _).mono ?_
            rintro e w2 ⟨rfl, rfl⟩
            rw [d3.out]
            go_wp2_with fail
            refine (within_any L 1 1000000 _).mono ?_
            rintro e w2 ⟨rfl, rfl⟩
            rw [d4.out]
            go_wp2
            go_ret
            exact ⟨ret_int HC.out.symm, hBl⟩
          · have hc : hdCode ⟨F, Q, T, L, B, K⟩ = chkP B K := by rw [hdCode, if_neg (by simp [hf]), if_neg h5]
            have HC := Shut.mk hc
            have h5' : (F == T) = false := by simpa using h5
            have hP := cutCheck_any B K (w.alloc (.cells #[.int .i64 F, .int .i64 Q, .int .i64 T, .int .i64 L, .int .i64 B, .int .i64 K] 25)) oB oK
            clear h1 h2 h3 h4 hf hc h5
            go_enter Tryd.func9, Tryd.ntmps9
            go_wp2_with fail
            refine (within_any F 0 3 _).mono ?_
            rintro e w2 ⟨rfl, rfl⟩
            rw [d1.out]
            go_wp2_with fail
            refine (within_any T 0 3 _).mono ?_
            rintro e w2 ⟨rfl, rfl⟩
            rw [d2.out]
            go_wp2_with fail
            refine (within_any Q 0 49 _).mono ?_
            rintro e w2 ⟨rfl, rfl⟩
            rw [d3.out]
            go_wp2_with fail
            refine (within_any L 1 1000000 _).mono ?_
            rintro e w2 ⟨rfl, rfl⟩
            rw [d4.out]
            go_wp2_with fail
            refine hP.mono ?_
            rintro e w3 ⟨rfl, hb3⟩
            have hF := hBl.trans (hb3.mono hBl.size)
            clear hP hb3
            go_wp2
            go_ret
            exact ⟨ret_int HC.out.symm, hF⟩
        · have d1 := Shut.mk (decide_eq_true h1)
          have d2 := Shut.mk (decide_eq_true h2)
          have d3 := Shut.mk (decide_eq_true h3)
          have d4 := Shut.mk (decide_eq_false h4)
          have HC : Shut (hdCode ⟨F, Q, T, L, B, K⟩ = 3) := ⟨by rw [hdCode, if_pos (fun hf => h4 hf.2.2.2)]⟩
          clear h1 h2 h3 h4
          go_enter Tryd.func9, Tryd.ntmps9
          go_wp2_with fail
          refine (within_any F 0 3 _).mono ?_
          rintro e w2 ⟨rfl, rfl⟩
          rw [d1.out]
          go_wp2_with fail
          refine (within_any T 0 3 _).mono ?_
          rintro e w2 ⟨rfl, rfl⟩
          rw [d2.out]
          go_wp2_with fail
          refine (within_any Q 0 49 _).mono ?_
          rintro e w2 ⟨rfl, rfl⟩
          rw [d3.out]
          go_wp2_with fail
          refine (within_any L 1 1000000 _).mono ?_
          rintro e w2 ⟨rfl, rfl⟩
          rw [d4.out]
          go_wp2
          go_ret
          exact ⟨ret_int HC.out.symm, hBl⟩
      · have d1 := Shut.mk (decide_eq_true h1)
        have d2 := Shut.mk (decide_eq_true h2)
        have d3 := Shut.mk (decide_eq_false h3)
        have HC : Shut (hdCode ⟨F, Q, T, L, B, K⟩ = 3) := ⟨by rw [hdCode, if_pos (fun hf => h3 hf.2.2.1)]⟩
        clear h1 h2 h3
        go_enter Tryd.func9, Tryd.ntmps9
        go_wp2_with fail
        refine (within_any F 0 3 _).mono ?_
        rintro e w2 ⟨rfl, rfl⟩
        rw [d1.out]
        go_wp2_with fail
        refine (within_any T 0 3 _).mono ?_
        rintro e w2 ⟨rfl, rfl⟩
        rw [d2.out]
        go_wp2_with fail
        refine (within_any Q 0 49 _).mono ?_
        rintro e w2 ⟨rfl, rfl⟩
        rw [d3.out]
        go_wp2
        go_ret
        exact ⟨ret_int HC.out.symm, hBl⟩
    · have d1 := Shut.mk (decide_eq_true h1)
      have d2 := Shut.mk (decide_eq_false h2)
      have HC : Shut (hdCode ⟨F, Q, T, L, B, K⟩ = 3) := ⟨by rw [hdCode, if_pos (fun hf => h2 hf.2.1)]⟩
      clear h1 h2
      go_enter Tryd.func9, Tryd.ntmps9
      go_wp2_with fail
      refine (within_any F 0 3 _).mono ?_
      rintro e w2 ⟨rfl, rfl⟩
      rw [d1.out]
      go_wp2_with fail
      refine (within_any T 0 3 _).mono ?_
      rintro e w2 ⟨rfl, rfl⟩
      rw [d2.out]
      go_wp2
      go_ret
      exact ⟨ret_int HC.out.symm, hBl⟩
  · have d1 := Shut.mk (decide_eq_false h1)
    have HC : Shut (hdCode ⟨F, Q, T, L, B, K⟩ = 3) := ⟨by rw [hdCode, if_pos (fun hf => h1 hf.1)]⟩
    clear h1
    go_enter Tryd.func9, Tryd.ntmps9
    go_wp2_with fail
    refine (within_any F 0 3 _).mono ?_
    rintro e w2 ⟨rfl, rfl⟩
    rw [d1.out]
    go_wp2
    go_ret
    exact ⟨ret_int HC.out.symm, hBl⟩

section
variable {k p n y : Int} {h : Hd} {id : Int} {dn cn : Nat}
theorem own_kind (a : ¬ (1 ≤ k ∧ k ≤ 8)) : ownCode k p n y h id dn cn = 4 := if_pos a
theorem own_need (a : 1 ≤ k ∧ k ≤ 8) (b : needless k p n y h id dn cn = true) : ownCode k p n y h id dn cn = 4 := by rw [ownCode, if_neg (fun e => e a), if_pos b]
theorem own_range (a : 1 ≤ k ∧ k ≤ 8) (b : needless k p n y h id dn cn = false) (c : ¬ ((0 ≤ p ∧ p ≤ 3) ∧ (0 ≤ y ∧ y ≤ 9999) ∧ (0 ≤ n ∧ n ≤ 1000000))) : ownCode k p n y h id dn cn = 3 := by rw [ownCode, if_neg (fun e => e a), if_neg (by rw [b]; simp), if_pos c]
theorem own_tick (a : 1 ≤ k ∧ k ≤ 8) (b : needless k p n y h id dn cn = false) (c : (0 ≤ p ∧ p ≤ 3) ∧ (0 ≤ y ∧ y ≤ 9999) ∧ (0 ≤ n ∧ n ≤ 1000000)) (d : k = 8) : ownCode k p n y h id dn cn = 0 := by rw [ownCode, if_neg (fun e => e a), if_neg (by rw [b]; simp), if_neg (fun e => e c), if_pos d]
theorem own_head (a : 1 ≤ k ∧ k ≤ 8) (b : needless k p n y h id dn cn = false) (c : (0 ≤ p ∧ p ≤ 3) ∧ (0 ≤ y ∧ y ≤ 9999) ∧ (0 ≤ n ∧ n ≤ 1000000)) (d : ¬ k = 8) (e : hdCode h ≠ 0) : ownCode k p n y h id dn cn = hdCode h := by rw [ownCode, if_neg (fun e => e a), if_neg (by rw [b]; simp), if_neg (fun e => e c), if_neg d, if_pos e]
theorem own_keep (a : 1 ≤ k ∧ k ≤ 8) (b : needless k p n y h id dn cn = false) (c : (0 ≤ p ∧ p ≤ 3) ∧ (0 ≤ y ∧ y ≤ 9999) ∧ (0 ≤ n ∧ n ≤ 1000000)) (d : ¬ k = 8) (e : hdCode h = 0) (f : k = 2) : ownCode k p n y h id dn cn = chkS h.B h.K id dn := by rw [ownCode, if_neg (fun e => e a), if_neg (by rw [b]; simp), if_neg (fun e => e c), if_neg d, if_neg (fun g => g e), if_pos f]
theorem own_form (a : 1 ≤ k ∧ k ≤ 8) (b : needless k p n y h id dn cn = false) (c : (0 ≤ p ∧ p ≤ 3) ∧ (0 ≤ y ∧ y ≤ 9999) ∧ (0 ≤ n ∧ n ≤ 1000000)) (d : ¬ k = 8) (e : hdCode h = 0) (f : ¬ k = 2) (g : (k = 1 ∨ k = 3) ∧ (cn : Int) ≠ h.B) : ownCode k p n y h id dn cn = 4 := by rw [ownCode, if_neg (fun e => e a), if_neg (by rw [b]; simp), if_neg (fun e => e c), if_neg d, if_neg (fun g => g e), if_neg f, if_pos g]
theorem own_ok (a : 1 ≤ k ∧ k ≤ 8) (b : needless k p n y h id dn cn = false) (c : (0 ≤ p ∧ p ≤ 3) ∧ (0 ≤ y ∧ y ≤ 9999) ∧ (0 ≤ n ∧ n ≤ 1000000)) (d : ¬ k = 8) (e : hdCode h = 0) (f : ¬ k = 2) (g : ¬ ((k = 1 ∨ k = 3) ∧ (cn : Int) ≠ h.B)) : ownCode k p n y h id dn cn = 0 := by rw [ownCode, if_neg (fun e => e a), if_neg (by rw [b]; simp), if_neg (fun e => e c), if_neg d, if_neg (fun g => g e), if_neg f, if_neg g]
end

theorem dec_t {p : Prop} [Decidable p] (h : Shut p) : decide p = true := decide_eq_true h.out
theorem dec_f {p : Prop} [Decidable p] (h : Shut (¬ p)) : decide p = false := decide_eq_false h.out

set_option maxHeartbeats 2000000 in
set_option maxRecDepth 8000 in
theorem ownCheck_any (k p n y : Int) (h : Hd) (id : Int) (da : Option Addr) (dn dc : Nat) (ca : Option Addr) (cn cc : Nat) (w : World) (ho : h.ok) (hdn : dn ≤ maxLen) :
    Calls Tryd.prog 11 #[.agg #[.int .i64 k, .int .i64 p, .int .i64 n, .int .i64 y, .int .i64 h.F, .int .i64 h.Q, .int .i64 h.T, .int .i64 h.L, .int .i64 h.B, .int .i64 h.K, .int .i64 id, .slice da dn dc, .slice ca cn cc]] w fun e w' => e = .returned (.int .i64 (ownCode k p n y h id dn cn)) ∧ Below w.heap.size w w' := by
  obtain ⟨W, hW⟩ : ∃ W, w.alloc (.cells #[.int .i64 k, .int .i64 p, .int .i64 n, .int .i64 y, .int .i64 h.F, .int .i64 h.Q, .int .i64 h.T, .int .i64 h.L, .int .i64 h.B, .int .i64 h.K, .int .i64 id, .slice da dn dc, .slice ca cn cc] 31) = W := ⟨_, rfl⟩
  have hBW : Below w.heap.size w W := by rw [← hW]; exact (Below.refl _ _).alloc (Nat.le_refl _) _
  have hbW : W.heap[w.heap.size]? = some (.cells #[.int .i64 k, .int .i64 p, .int .i64 n, .int .i64 y, .int .i64 h.F, .int .i64 h.Q, .int .i64 h.T, .int .i64 h.L, .int .i64 h.B, .int .i64 h.K, .int .i64 id, .slice da dn dc, .slice ca cn cc] 31 (0, 0)) := by rw [← hW, heap_alloc_eq, if_pos rfl]
  have hNd := hasNeedless_any k p n y h id da dn dc ca cn cc W
  have hHd := head_any h
  have oB := ho.2.2.2.2.1
  have oK := ho.2.2.2.2.2
  obtain ⟨F, Q, T, L, B, K⟩ := h
  simp only [Hd.val] at *
  generalize hh : (⟨F, Q, T, L, B, K⟩ : Hd) = h at *
  have hB' : h.B = B := by rw [← hh]
  have hK' : h.K = K := by rw [← hh]
  clear hh
  have sB := Shut.mk hB'
  have sK := Shut.mk hK'
  clear hB' hK'
  have q0 : W.cell? ⟨w.heap.size, 0, none⟩ = some (.int .i64 k) := cellB hbW 0 _ rfl
  have q1 : W.cell? ⟨w.heap.size, 1, none⟩ = some (.int .i64 p) := cellB hbW 1 _ rfl
  have q2 : W.cell? ⟨w.heap.size, 2, none⟩ = some (.int .i64 n) := cellB hbW 2 _ rfl
  have q3 : W.cell? ⟨w.heap.size, 3, none⟩ = some (.int .i64 y) := cellB hbW 3 _ rfl
  have q4 : W.cell? ⟨w.heap.size, 4, none⟩ = some (.int .i64 F) := cellB hbW 4 _ rfl
  have q5 : W.cell? ⟨w.heap.size, 5, none⟩ = some (.int .i64 Q) := cellB hbW 5 _ rfl
  have q6 : W.cell? ⟨w.heap.size, 6, none⟩ = some (.int .i64 T) := cellB hbW 6 _ rfl
  have q7 : W.cell? ⟨w.heap.size, 7, none⟩ = some (.int .i64 L) := cellB hbW 7 _ rfl
  have q8 : W.cell? ⟨w.heap.size, 8, none⟩ = some (.int .i64 B) := cellB hbW 8 _ rfl
  have q9 : W.cell? ⟨w.heap.size, 9, none⟩ = some (.int .i64 K) := cellB hbW 9 _ rfl
  have q10 : W.cell? ⟨w.heap.size, 10, none⟩ = some (.int .i64 id) := cellB hbW 10 _ rfl
  have q11 : W.cell? ⟨w.heap.size, 11, none⟩ = some (.slice da dn dc) := cellB hbW 11 _ rfl
  have q12 : W.cell? ⟨w.heap.size, 12, none⟩ = some (.slice ca cn cc) := cellB hbW 12 _ rfl
  by_cases hk : 1 ≤ k ∧ k ≤ 8
  · have sk := Shut.mk hk
    clear hk
    cases hN : needless k p n y h id dn cn with
    | true =>
      rw [hN] at hNd
      have sN := Shut.mk hN
      clear hN
      go_enter Tryd.func11, Tryd.ntmps11
      go_wp2_with fail
      refine (within_any k 1 8 _).mono ?_
      rintro e _ ⟨rfl, rfl⟩
      rw [dec_t sk]
      go_wp2_with fail
      refine hNd.mono ?_
      rintro e W1 ⟨rfl, hb1⟩
      have hF := hBW.trans (hb1.mono hBW.size)
      clear hNd hb1
      go_wp2
      go_ret
      exact ⟨ret_int (own_need sk.out sN.out).symm, hF⟩
    | false =>
      rw [hN] at hNd
      have sN := Shut.mk hN
      clear hN
      go_enter Tryd.func11, Tryd.ntmps11
      go_wp2_with fail
      refine (within_any k 1 8 _).mono ?_
      rintro e _ ⟨rfl, rfl⟩
      rw [dec_t sk]
      go_wp2_with fail
      refine hNd.mono ?_
      rintro e W1 ⟨rfl, hb1⟩
      have hF := hBW.trans (hb1.mono hBW.size)
      have hbk := blkB hbW hb1
      have c0 : W1.cell? ⟨w.heap.size, 0, none⟩ = some (.int .i64 k) := cellB hbk 0 _ rfl
      have c1 : W1.cell? ⟨w.heap.size, 1, none⟩ = some (.int .i64 p) := cellB hbk 1 _ rfl
      have c2 : W1.cell? ⟨w.heap.size, 2, none⟩ = some (.int .i64 n) := cellB hbk 2 _ rfl
      have c3 : W1.cell? ⟨w.heap.size, 3, none⟩ = some (.int .i64 y) := cellB hbk 3 _ rfl
      have c4 : W1.cell? ⟨w.heap.size, 4, none⟩ = some (.int .i64 F) := cellB hbk 4 _ rfl
      have c5 : W1.cell? ⟨w.heap.size, 5, none⟩ = some (.int .i64 Q) := cellB hbk 5 _ rfl
      have c6 : W1.cell? ⟨w.heap.size, 6, none⟩ = some (.int .i64 T) := cellB hbk 6 _ rfl
      have c7 : W1.cell? ⟨w.heap.size, 7, none⟩ = some (.int .i64 L) := cellB hbk 7 _ rfl
      have c8 : W1.cell? ⟨w.heap.size, 8, none⟩ = some (.int .i64 B) := cellB hbk 8 _ rfl
      have c9 : W1.cell? ⟨w.heap.size, 9, none⟩ = some (.int .i64 K) := cellB hbk 9 _ rfl
      clear hNd hb1 hbW hBW hW q0 q1 q2 q3 q4 q5 q6 q7 q8 q9 q10 q11 q12
      go_wp2_with fail
      refine (within_any p 0 3 _).mono ?_
      rintro e _ ⟨rfl, rfl⟩
      by_cases hp : 0 ≤ p ∧ p ≤ 3
      case neg =>
        have sp := Shut.mk hp
        clear hp
        rw [dec_f sp]
        go_wp2
        go_ret
        exact ⟨ret_int (own_range sk.out sN.out (fun e => sp.out e.1)).symm, hF⟩
      have sp := Shut.mk hp
      clear hp
      rw [dec_t sp]
      go_wp2_with fail
      refine (within_any y 0 9999 _).mono ?_
      rintro e _ ⟨rfl, rfl⟩
      by_cases hy : 0 ≤ y ∧ y ≤ 9999
      case neg =>
        have sy := Shut.mk hy
        clear hy
        rw [dec_f sy]
        go_wp2
        go_ret
        exact ⟨ret_int (own_range sk.out sN.out (fun e => sy.out e.2.1)).symm, hF⟩
      have sy := Shut.mk hy
      clear hy
      rw [dec_t sy]
      go_wp2_with fail
      refine (within_any n 0 1000000 _).mono ?_
      rintro e _ ⟨rfl, rfl⟩
      by_cases hn : 0 ≤ n ∧ n ≤ 1000000
      case neg =>
        have sn := Shut.mk hn
        clear hn
        rw [dec_f sn]
        go_wp2
        go_ret
        exact ⟨ret_int (own_range sk.out sN.out (fun e => sn.out e.2.2)).symm, hF⟩
      have sn := Shut.mk hn
      clear hn
      rw [dec_t sn]
      have sR : Shut ((0 ≤ p ∧ p ≤ 3) ∧ (0 ≤ y ∧ y ≤ 9999) ∧ (0 ≤ n ∧ n ≤ 1000000)) := ⟨sp.out, sy.out, sn.out⟩
      cases b8 : (k == 8) with
      | true =>
        have s8 : Shut (k = 8) := ⟨by simpa using b8⟩
        go_wp2
        go_ret
        exact ⟨ret_int (own_tick sk.out sN.out sR.out s8.out).symm, hF⟩
      | false =>
        have s8 : Shut (¬ k = 8) := ⟨by simpa using b8⟩
        go_wp2_with fail
        refine (hHd W1 ho).mono ?_
        rintro e W2 ⟨rfl, hb2⟩
        replace hF := hF.trans (hb2.mono hF.size)
        replace hbk := blkB hbk hb2
        clear c0 c1 c2 c3 c4 c5 c6 c7 c8 c9
        have c0 : W2.cell? ⟨w.heap.size, 0, none⟩ = some (.int .i64 k) := cellB hbk 0 _ rfl
        have c8 : W2.cell? ⟨w.heap.size, 8, none⟩ = some (.int .i64 B) := cellB hbk 8 _ rfl
        have c9 : W2.cell? ⟨w.heap.size, 9, none⟩ = some (.int .i64 K) := cellB hbk 9 _ rfl
        have c10 : W2.cell? ⟨w.heap.size, 10, none⟩ = some (.int .i64 id) := cellB hbk 10 _ rfl
        have c11 : W2.cell? ⟨w.heap.size, 11, none⟩ = some (.slice da dn dc) := cellB hbk 11 _ rfl
        have c12 : W2.cell? ⟨w.heap.size, 12, none⟩ = some (.slice ca cn cc) := cellB hbk 12 _ rfl
        clear hb2
        cases bh : (hdCode h != 0) with
        | true =>
          have sh : Shut (hdCode h ≠ 0) := ⟨by simpa using bh⟩
          have HC := Shut.mk (own_head sk.out sN.out sR.out s8.out sh.out)
          generalize hdCode h = hc at bh HC ⊢
          go_wp2
          go_ret
          exact ⟨ret_int HC.out.symm, hF⟩
        | false =>
          have sh : Shut (hdCode h = 0) := ⟨by simpa using bh⟩
          rw [sh.out]
          clear bh
          cases b2 : (k == 2) with
          | true =>
            have s2 : Shut (k = 2) := ⟨by simpa using b2⟩
            have hS := codeCheck_any B K id da dn dc W2 oB oK hdn
            have HC : Shut (ownCode k p n y h id dn cn = chkS B K id dn) := ⟨by rw [← sB.out, ← sK.out]; exact own_keep sk.out sN.out sR.out s8.out sh.out s2.out⟩
            generalize chkS B K id dn = cs at hS HC
            go_wp2_with fail
            refine hS.mono ?_
            rintro e W3 ⟨rfl, hb3⟩
            replace hF := hF.trans (hb3.mono hF.size)
            clear hS hb3
            go_wp2
            go_ret
            exact ⟨ret_int HC.out.symm, hF⟩
          | false =>
            have s2 : Shut (¬ k = 2) := ⟨by simpa using b2⟩
            cases b1 : (k == 1) with
            | true =>
              have s1 : Shut (k = 1) := ⟨by simpa using b1⟩
              cases bc : ((cn : Int) != B) with
              | true =>
                have sc : Shut ((cn : Int) ≠ B) := ⟨by simpa using bc⟩
                go_wp2
                go_ret
                exact ⟨ret_int (own_form sk.out sN.out sR.out s8.out sh.out s2.out ⟨Or.inl s1.out, by rw [sB.out]; exact sc.out⟩).symm, hF⟩
              | false =>
                have sc : Shut ((cn : Int) = B) := ⟨by simpa using bc⟩
                go_wp2
                go_ret
                exact ⟨ret_int (own_ok sk.out sN.out sR.out s8.out sh.out s2.out (fun e => e.2 (by rw [sB.out]; exact sc.out))).symm, hF⟩
            | false =>
              have s1 : Shut (¬ k = 1) := ⟨by simpa using b1⟩
              cases b3 : (k == 3) with
              | true =>
                have s3 : Shut (k = 3) := ⟨by simpa using b3⟩
                cases bc : ((cn : Int) != B) with
                | true =>
                  have sc : Shut ((cn : Int) ≠ B) := ⟨by simpa using bc⟩
                  go_wp2
                  go_ret
                  exact ⟨ret_int (own_form sk.out sN.out sR.out s8.out sh.out s2.out ⟨Or.inr s3.out, by rw [sB.out]; exact sc.out⟩).symm, hF⟩
                | false =>
                  have sc : Shut ((cn : Int) = B) := ⟨by simpa using bc⟩
                  go_wp2
                  go_ret
                  exact ⟨ret_int (own_ok sk.out sN.out sR.out s8.out sh.out s2.out (fun e => e.2 (by rw [sB.out]; exact sc.out))).symm, hF⟩
              | false =>
                have s3 : Shut (¬ k = 3) := ⟨by simpa using b3⟩
                go_wp2
                go_ret
                exact ⟨ret_int (own_ok sk.out sN.out sR.out s8.out sh.out s2.out (fun e => e.1.elim s1.out s3.out)).symm, hF⟩
  · have sk := Shut.mk hk
    clear hk
    go_enter Tryd.func11, Tryd.ntmps11
    go_wp2_with fail
    refine (within_any k 1 8 _).mono ?_
    rintro e _ ⟨rfl, rfl⟩
    rw [dec_f sk]
    go_wp2
    go_ret
    exact ⟨ret_int (own_kind sk.out).symm, hBW⟩

theorem noteCheck_any (r : Rc) (da : Option Addr) (dc : Nat) (ca : Option Addr) (cc : Nat) (w : World) (hi : r.ints) (hd : r.d.length ≤ maxLen) :
    Calls Tryd.prog 11 #[rcV r da dc ca cc] w fun e w' => e = .returned (.int .i64 r.code) ∧ Below w.heap.size w w' := by
  have := ownCheck_any r.k r.p r.n r.y r.h r.id da r.d.length dc ca r.c.length cc w hi.2.2.2.2.1 hd
  rw [ownCode_rec] at this
  exact this

end Go.Proofs.YtcpnbkgkknlocaaDoor
