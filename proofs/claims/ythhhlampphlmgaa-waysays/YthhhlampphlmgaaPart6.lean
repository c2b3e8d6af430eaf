import Derived.Test.YthhhlampphlmgaaPart5
import Derived.Shelf.Abstract
/-
  Chapter 10: frames and mails held against each other: package way's and the reference's.
-/
namespace Go.Proofs.Ythhhlampphlmgaa
open Go.RowKit
set_option linter.unusedVariables false
set_option linter.unusedSimpArgs false

theorem infoInt : (Try.prog.info? 3).map (fun i => (i.zero, i.size, i.bytes)) = some (some (.int .i64 0), 1, 8) := by kernel_rfl

theorem eqlEnds (a b c d : Int) (W : World) : (binOp .eql 57 (.agg #[.int .i64 a, .int .i64 b]) (.agg #[.int .i64 c, .int .i64 d])).run Try.prog W = .ok (.bool (decide (a = c ∧ b = d))) W := by
  have hi := Try.underlying3
  obtain ⟨i0, hi0, _, _, _⟩ := info_parts infoInt
  have hE : ∀ (x y : Int) (w : World) (d : Nat), (Op.equalIn (d + 1) 3 (.int .i64 x) (.int .i64 y)).run Try.prog w = .ok (x == y) w := fun x y w d => run_equalIn_int w d 3 .i64 .i64 x y hi
  have hc : Try.prog.cellsOf 3 = 1 := by kernel_rfl
  rw [run_eql_struct, run_equalIn_array W 9999 _ _ Try.underlying57 hi0, hc]
  have hr : List.range 2 = [0, 1] := rfl
  rw [hr]
  simp [Op.eqItems, go_sem, hE]
  by_cases h1 : a = c <;> by_cases h2 : b = d <;> simp [h1, h2]

/-- what a comparison came to, for the walk and for the proof -/
theorem beq_cases (a b : Int) : ((a == b) = true ∧ a = b) ∨ ((a == b) = false ∧ ¬ a = b) := by
  by_cases h : a = b
  · exact Or.inl ⟨by simpa using h, h⟩
  · exact Or.inr ⟨by simpa using h, h⟩

/-- all that a frame says, and its bytes -/
def frEq (k : Int) (h : Hd) (id : Int) (d : List UInt8) (n y k' : Int) (h' : Hd) (id' : Int) (d' : List UInt8) (n' y' : Int) : Prop := k = k' ∧ h = h' ∧ id = id' ∧ d = d' ∧ n = n' ∧ y = y'

instance (k : Int) (h : Hd) (id : Int) (d : List UInt8) (n y k' : Int) (h' : Hd) (id' : Int) (d' : List UInt8) (n' y' : Int) : Decidable (frEq k h id d n y k' h' id' d' n' y') := by unfold frEq; exact inferInstance

set_option maxHeartbeats 2000000 in
set_option maxRecDepth 4000 in
theorem wSameFrame_any (k : Int) (h : Hd) (id : Int) (da : Option Addr) (d : List UInt8) (dc : Nat) (n y : Int) (k' : Int) (h' : Hd) (id' : Int) (da' : Option Addr) (d' : List UInt8) (dc' : Nat) (n' y' : Int) (w : World) (hl : Lies w da (bs d)) (hl' : Lies w da' (bs d')) :
    Calls Try.prog 30 #[.agg #[.int .i64 k, .int .i64 h.F, .int .i64 h.Q, .int .i64 h.T, .int .i64 h.L, .int .i64 h.B, .int .i64 h.K, .int .i64 id, .slice da d.length dc, .int .i64 n, .int .i64 y], .agg #[.int .i64 k', .int .i64 h'.F, .int .i64 h'.Q, .int .i64 h'.T, .int .i64 h'.L, .int .i64 h'.B, .int .i64 h'.K, .int .i64 id', .slice da' d'.length dc', .int .i64 n', .int .i64 y']] w fun e w' => e = .returned (.bool (decide (frEq k h id d n y k' h' id' d' n' y'))) ∧ Below w.heap.size w w' := by
  obtain ⟨N, hN⟩ : ∃ N, decide (frEq k h id d n y k' h' id' d' n' y') = N := ⟨_, rfl⟩
  rw [hN]
  have sN := Shut.mk hN
  clear hN
  obtain ⟨W, hW⟩ : ∃ W, (w.alloc (.cells #[.int .i64 k, .int .i64 h.F, .int .i64 h.Q, .int .i64 h.T, .int .i64 h.L, .int .i64 h.B, .int .i64 h.K, .int .i64 id, .slice da d.length dc, .int .i64 n, .int .i64 y] 32)).alloc (.cells #[.int .i64 k', .int .i64 h'.F, .int .i64 h'.Q, .int .i64 h'.T, .int .i64 h'.L, .int .i64 h'.B, .int .i64 h'.K, .int .i64 id', .slice da' d'.length dc', .int .i64 n', .int .i64 y'] 32) = W := ⟨_, rfl⟩
  have hB : Below w.heap.size w W := by rw [← hW]; exact ((Below.refl _ _).alloc (Nat.le_refl _) _).alloc (by simp) _
  have hk : W.heap[w.heap.size]? = some (.cells #[.int .i64 k, .int .i64 h.F, .int .i64 h.Q, .int .i64 h.T, .int .i64 h.L, .int .i64 h.B, .int .i64 h.K, .int .i64 id, .slice da d.length dc, .int .i64 n, .int .i64 y] 32 (0, 0)) := by rw [← hW, heap_alloc_eq, if_neg (by simp), heap_alloc_eq, if_pos rfl]
  have hk' : W.heap[w.heap.size + 1]? = some (.cells #[.int .i64 k', .int .i64 h'.F, .int .i64 h'.Q, .int .i64 h'.T, .int .i64 h'.L, .int .i64 h'.B, .int .i64 h'.K, .int .i64 id', .slice da' d'.length dc', .int .i64 n', .int .i64 y'] 32 (0, 0)) := by rw [← hW, heap_alloc_eq, if_pos (by simp)]
  have HW := Shut.mk hW
  clear hW
  have hS := same_any da da' d.length d'.length dc dc' d d' W rfl rfl (hl.below hB (Nat.le_refl _)) (hl'.below hB (Nat.le_refl _))
  clear hl hl'
  obtain ⟨q0, q1, q2, q3, q4, q5, q6, q7, q8, q9, q10⟩ := frBox hk
  obtain ⟨s0, s1, s2, s3, s4, s5, s6, s7, s8, s9, s10⟩ := frBox hk'
  have hE := eqlHead h h'
  simp only [Hd.val] at hE
  clear hk hk'
  have EZ : Shut (decide (h = h') = true ↔ h = h') := ⟨by simp⟩
  generalize decide (h = h') = z at hE EZ
  have ED : Shut (decide (d = d') = true ↔ d = d') := ⟨by simp⟩
  generalize decide (d = d') = dd at hS ED
  have no : ¬ frEq k h id d n y k' h' id' d' n' y' → Shut (N = false) := fun g => ⟨by rw [← sN.out]; exact decide_eq_false g⟩
  go_enter Try.func30, Try.ntmps30
  go_upto_region 1 with fail
  rw [HW.out]
  clear HW
  rcases beq_cases k k' with ⟨bqk, ek⟩ | ⟨bqk, ek⟩
  · have Ek := Shut.mk ek
    clear ek
    cases z with
    | false =>
      have R := no (fun e => absurd (EZ.out.2 e.2.1) (by simp))
      go_wp2
      go_ret
      exact ⟨by rw [R.out]; rfl, hB⟩
    | true =>
      rcases beq_cases id id' with ⟨bqid, eid⟩ | ⟨bqid, eid⟩
      · have Eid := Shut.mk eid
        clear eid
        go_wp2_with fail
        refine hS.mono ?_
        rintro e _ ⟨rfl, rfl⟩
        clear hS
        cases dd with
        | false =>
          have R := no (fun e => absurd (ED.out.2 e.2.2.2.1) (by simp))
          go_wp2
          go_ret
          exact ⟨by rw [R.out]; rfl, hB⟩
        | true =>
          rcases beq_cases n n' with ⟨bqn, en⟩ | ⟨bqn, en⟩
          · have En := Shut.mk en
            clear en
            rcases beq_cases y y' with ⟨bqy, ey⟩ | ⟨bqy, ey⟩
            · have Ey := Shut.mk ey
              clear ey
              have R : Shut (N = true) := ⟨by rw [← sN.out]; exact decide_eq_true ⟨Ek.out, EZ.out.1 (by trivial), Eid.out, ED.out.1 (by trivial), En.out, Ey.out⟩⟩
              go_wp2
              go_ret
              exact ⟨by rw [R.out]; rfl, hB⟩
            · have Ey := Shut.mk ey
              clear ey
              have R := no (fun e => Ey.out e.2.2.2.2.2)
              go_wp2
              go_ret
              exact ⟨by rw [R.out]; rfl, hB⟩
          · have En := Shut.mk en
            clear en
            have R := no (fun e => En.out e.2.2.2.2.1)
            go_wp2
            go_ret
            exact ⟨by rw [R.out]; rfl, hB⟩
      · have Eid := Shut.mk eid
        clear eid
        have R := no (fun e => Eid.out e.2.2.1)
        go_wp2
        go_ret
        exact ⟨by rw [R.out]; rfl, hB⟩
  · have Ek := Shut.mk ek
    clear ek
    have R := no (fun e => Ek.out e.1)
    go_wp2
    go_ret
    exact ⟨by rw [R.out]; rfl, hB⟩

theorem rSymbol_any (id : Int) (da : Option Addr) (d : List UInt8) (dc : Nat) (id' : Int) (da' : Option Addr) (d' : List UInt8) (dc' : Nat) (w : World) (hl : Lies w da (bs d)) (hl' : Lies w da' (bs d')) (hm : d.length ≤ maxLen) (hm' : d'.length ≤ maxLen) :
    Calls Try.prog 25 #[.agg #[.int .i64 id, .slice da d.length dc], .agg #[.int .i64 id', .slice da' d'.length dc']] w fun e w' => e = .returned (.bool (decide (id = id' ∧ d = d'))) ∧ Below w.heap.size w w' := by
  obtain ⟨N, hN⟩ : ∃ N, decide (id = id' ∧ d = d') = N := ⟨_, rfl⟩
  rw [hN]
  have sN := Shut.mk hN
  clear hN
  obtain ⟨W, hW⟩ : ∃ W, (w.alloc (.cells #[.int .i64 id, .slice da d.length dc] 30)).alloc (.cells #[.int .i64 id', .slice da' d'.length dc'] 30) = W := ⟨_, rfl⟩
  have hB : Below w.heap.size w W := by rw [← hW]; exact ((Below.refl _ _).alloc (Nat.le_refl _) _).alloc (by simp) _
  have hk : W.heap[w.heap.size]? = some (.cells #[.int .i64 id, .slice da d.length dc] 30 (0, 0)) := by rw [← hW, heap_alloc_eq, if_neg (by simp), heap_alloc_eq, if_pos rfl]
  have hk' : W.heap[w.heap.size + 1]? = some (.cells #[.int .i64 id', .slice da' d'.length dc'] 30 (0, 0)) := by rw [← hW, heap_alloc_eq, if_pos (by simp)]
  have HW := Shut.mk hW
  clear hW
  have hS := equalBlock da da' dc dc' d d' hm hm' (hl.below hB (Nat.le_refl _)) (hl'.below hB (Nat.le_refl _))
  have q0 : W.cell? ⟨w.heap.size, 0, none⟩ = some (.int .i64 id) := cellB hk 0 _ rfl
  have q1 : W.cell? ⟨w.heap.size, 1, none⟩ = some (.slice da d.length dc) := cellB hk 1 _ rfl
  have s0 : W.cell? ⟨w.heap.size + 1, 0, none⟩ = some (.int .i64 id') := cellB hk' 0 _ rfl
  have s1 : W.cell? ⟨w.heap.size + 1, 1, none⟩ = some (.slice da' d'.length dc') := cellB hk' 1 _ rfl
  clear hl hl' hk hk' hm hm'
  have ED : Shut (decide (d = d') = true ↔ d = d') := ⟨by simp⟩
  generalize decide (d = d') = dd at hS ED
  have no : ¬ (id = id' ∧ d = d') → Shut (N = false) := fun g => ⟨by rw [← sN.out]; exact decide_eq_false g⟩
  go_enter Try.func25, Try.ntmps25
  go_upto_region 1 with fail
  rw [HW.out]
  clear HW
  rcases beq_cases id id' with ⟨bqid, eid⟩ | ⟨bqid, eid⟩
  · have Eid := Shut.mk eid
    clear eid
    go_wp2_with fail
    refine hS.mono ?_
    rintro e _ ⟨rfl, nn, rfl⟩
    have hB1 : Below w.heap.size w (W.drewN nn) := hB.trans (bdn W nn _)
    clear hS
    cases dd with
    | false =>
      have R := no (fun e => absurd (ED.out.2 e.2) (by simp))
      go_wp2
      go_ret
      exact ⟨by rw [R.out]; rfl, hB1⟩
    | true =>
      have R : Shut (N = true) := ⟨by rw [← sN.out]; exact decide_eq_true ⟨Eid.out, ED.out.1 (by trivial)⟩⟩
      go_wp2
      go_ret
      exact ⟨by rw [R.out]; rfl, hB1⟩
  · have Eid := Shut.mk eid
    clear eid
    have R := no (fun e => Eid.out e.1)
    go_wp2
    go_ret
    exact ⟨by rw [R.out]; rfl, hB⟩

set_option maxHeartbeats 2000000 in
set_option maxRecDepth 4000 in
theorem rMail_any (f t k : Int) (h : Hd) (id : Int) (da : Option Addr) (d : List UInt8) (dc : Nat) (n y : Int) (f' t' k' : Int) (h' : Hd) (id' : Int) (da' : Option Addr) (d' : List UInt8) (dc' : Nat) (n' y' : Int) (w : World) (hl : Lies w da (bs d)) (hl' : Lies w da' (bs d')) (hm : d.length ≤ maxLen) (hm' : d'.length ≤ maxLen) :
    Calls Try.prog 24 #[.agg #[.int .i64 f, .int .i64 t, .int .i64 k, .int .i64 h.F, .int .i64 h.Q, .int .i64 h.T, .int .i64 h.L, .int .i64 h.B, .int .i64 h.K, .int .i64 id, .slice da d.length dc, .int .i64 n, .int .i64 y], .agg #[.int .i64 f', .int .i64 t', .int .i64 k', .int .i64 h'.F, .int .i64 h'.Q, .int .i64 h'.T, .int .i64 h'.L, .int .i64 h'.B, .int .i64 h'.K, .int .i64 id', .slice da' d'.length dc', .int .i64 n', .int .i64 y']] w fun e w' => e = .returned (.bool (decide (f = f' ∧ t = t' ∧ frEq k h id d n y k' h' id' d' n' y'))) ∧ Below w.heap.size w w' := by
  obtain ⟨N, hN⟩ : ∃ N, decide (f = f' ∧ t = t' ∧ frEq k h id d n y k' h' id' d' n' y') = N := ⟨_, rfl⟩
  rw [hN]
  have sN := Shut.mk hN
  clear hN
  obtain ⟨W, hW⟩ : ∃ W, (w.alloc (.cells #[.int .i64 f, .int .i64 t, .int .i64 k, .int .i64 h.F, .int .i64 h.Q, .int .i64 h.T, .int .i64 h.L, .int .i64 h.B, .int .i64 h.K, .int .i64 id, .slice da d.length dc, .int .i64 n, .int .i64 y] 34)).alloc (.cells #[.int .i64 f', .int .i64 t', .int .i64 k', .int .i64 h'.F, .int .i64 h'.Q, .int .i64 h'.T, .int .i64 h'.L, .int .i64 h'.B, .int .i64 h'.K, .int .i64 id', .slice da' d'.length dc', .int .i64 n', .int .i64 y'] 34) = W := ⟨_, rfl⟩
  have hB : Below w.heap.size w W := by rw [← hW]; exact ((Below.refl _ _).alloc (Nat.le_refl _) _).alloc (by simp) _
  have hk : W.heap[w.heap.size]? = some (.cells #[.int .i64 f, .int .i64 t, .int .i64 k, .int .i64 h.F, .int .i64 h.Q, .int .i64 h.T, .int .i64 h.L, .int .i64 h.B, .int .i64 h.K, .int .i64 id, .slice da d.length dc, .int .i64 n, .int .i64 y] 34 (0, 0)) := by rw [← hW, heap_alloc_eq, if_neg (by simp), heap_alloc_eq, if_pos rfl]
  have hk' : W.heap[w.heap.size + 1]? = some (.cells #[.int .i64 f', .int .i64 t', .int .i64 k', .int .i64 h'.F, .int .i64 h'.Q, .int .i64 h'.T, .int .i64 h'.L, .int .i64 h'.B, .int .i64 h'.K, .int .i64 id', .slice da' d'.length dc', .int .i64 n', .int .i64 y'] 34 (0, 0)) := by rw [← hW, heap_alloc_eq, if_pos (by simp)]
  have HW := Shut.mk hW
  clear hW
  have hS := rSymbol_any id da d dc id' da' d' dc' W (hl.below hB (Nat.le_refl _)) (hl'.below hB (Nat.le_refl _)) hm hm'
  clear hl hl'
  obtain ⟨q0, q1, q2, q3, q4, q5, q6, q7, q8, q9, q10, q11, q12⟩ := mlBox hk
  obtain ⟨s0, s1, s2, s3, s4, s5, s6, s7, s8, s9, s10, s11, s12⟩ := mlBox hk'
  have hE := eqlHead h h'
  simp only [Hd.val] at hE
  have HK := Shut.mk (And.intro hk hk')
  clear hk hk'
  have EZ : Shut (decide (h = h') = true ↔ h = h') := ⟨by simp⟩
  generalize decide (h = h') = z at hE EZ
  have ED : Shut (decide (id = id' ∧ d = d') = true ↔ (id = id' ∧ d = d')) := ⟨by simp⟩
  generalize decide (id = id' ∧ d = d') = dd at hS ED
  have no : ¬ (f = f' ∧ t = t' ∧ frEq k h id d n y k' h' id' d' n' y') → Shut (N = false) := fun g => ⟨by rw [← sN.out]; exact decide_eq_false g⟩
  go_enter Try.func24, Try.ntmps24
  go_upto_region 1 with fail
  rw [HW.out]
  clear HW
  rcases beq_cases f f' with ⟨bqf, ef⟩ | ⟨bqf, ef⟩
  · have Ef := Shut.mk ef
    clear ef
    rcases beq_cases t t' with ⟨bqt, et⟩ | ⟨bqt, et⟩
    · have Et := Shut.mk et
      clear et
      rcases beq_cases k k' with ⟨bqk, ek⟩ | ⟨bqk, ek⟩
      · have Ek := Shut.mk ek
        clear ek
        cases z with
        | false =>
          have R := no (fun e => absurd (EZ.out.2 e.2.2.2.1) (by simp))
          go_wp2
          go_ret
          exact ⟨by rw [R.out]; rfl, hB⟩
        | true =>
          go_wp2_with fail
          refine hS.mono ?_
          rintro e W1 ⟨rfl, hb⟩
          have hB1 := hB.trans (hb.mono hB.size)
          have hk1 := blkB HK.out.1 hb
          have hk1' := blkB HK.out.2 hb
          clear hS hb hB q0 q1 q2 q3 q4 q5 q6 q7 q8 q9 q10 q11 q12 s0 s1 s2 s3 s4 s5 s6 s7 s8 s9 s10 s11 s12
          obtain ⟨q0, q1, q2, q3, q4, q5, q6, q7, q8, q9, q10, q11, q12⟩ := mlBox hk1
          obtain ⟨s0, s1, s2, s3, s4, s5, s6, s7, s8, s9, s10, s11, s12⟩ := mlBox hk1'
          clear hk1 hk1'
          cases dd with
          | false =>
            have R := no (fun e => absurd (ED.out.2 ⟨e.2.2.2.2.1, e.2.2.2.2.2.1⟩) (by simp))
            go_wp2
            go_ret
            exact ⟨by rw [R.out]; rfl, hB1⟩
          | true =>
            rcases beq_cases n n' with ⟨bqn, en⟩ | ⟨bqn, en⟩
            · have En := Shut.mk en
              clear en
              rcases beq_cases y y' with ⟨bqy, ey⟩ | ⟨bqy, ey⟩
              · have Ey := Shut.mk ey
                clear ey
                have R : Shut (N = true) := ⟨by rw [← sN.out]; exact decide_eq_true ⟨Ef.out, Et.out, Ek.out, EZ.out.1 (by trivial), (ED.out.1 (by trivial)).1, (ED.out.1 (by trivial)).2, En.out, Ey.out⟩⟩
                go_wp2
                go_ret
                exact ⟨by rw [R.out]; rfl, hB1⟩
              · have Ey := Shut.mk ey
                clear ey
                have R := no (fun e => Ey.out e.2.2.2.2.2.2.2)
                go_wp2
                go_ret
                exact ⟨by rw [R.out]; rfl, hB1⟩
            · have En := Shut.mk en
              clear en
              have R := no (fun e => En.out e.2.2.2.2.2.2.1)
              go_wp2
              go_ret
              exact ⟨by rw [R.out]; rfl, hB1⟩
      · have Ek := Shut.mk ek
        clear ek
        have R := no (fun e => Ek.out e.2.2.1)
        go_wp2
        go_ret
        exact ⟨by rw [R.out]; rfl, hB⟩
    · have Et := Shut.mk et
      clear et
      have R := no (fun e => Et.out e.2.1)
      go_wp2
      go_ret
      exact ⟨by rw [R.out]; rfl, hB⟩
  · have Ef := Shut.mk ef
    clear ef
    have R := no (fun e => Ef.out e.1)
    go_wp2
    go_ret
    exact ⟨by rw [R.out]; rfl, hB⟩

set_option maxHeartbeats 2000000 in
set_option maxRecDepth 4000 in
theorem wMailSame_any (f t k : Int) (h : Hd) (id : Int) (da : Option Addr) (d : List UInt8) (dc : Nat) (n y : Int) (f' t' k' : Int) (h' : Hd) (id' : Int) (da' : Option Addr) (d' : List UInt8) (dc' : Nat) (n' y' : Int) (w : World) (hl : Lies w da (bs d)) (hl' : Lies w da' (bs d')) :
    Calls Try.prog 23 #[.agg #[.int .i64 f, .int .i64 t, .int .i64 k, .int .i64 h.F, .int .i64 h.Q, .int .i64 h.T, .int .i64 h.L, .int .i64 h.B, .int .i64 h.K, .int .i64 id, .slice da d.length dc, .int .i64 n, .int .i64 y], .agg #[.int .i64 f', .int .i64 t', .int .i64 k', .int .i64 h'.F, .int .i64 h'.Q, .int .i64 h'.T, .int .i64 h'.L, .int .i64 h'.B, .int .i64 h'.K, .int .i64 id', .slice da' d'.length dc', .int .i64 n', .int .i64 y']] w fun e w' => e = .returned (.bool (decide (f = f' ∧ t = t' ∧ frEq k h id d n y k' h' id' d' n' y'))) ∧ Below w.heap.size w w' := by
  obtain ⟨N, hN⟩ : ∃ N, decide (f = f' ∧ t = t' ∧ frEq k h id d n y k' h' id' d' n' y') = N := ⟨_, rfl⟩
  rw [hN]
  have sN := Shut.mk hN
  clear hN
  obtain ⟨W, hW⟩ : ∃ W, (w.alloc (.cells #[.int .i64 f, .int .i64 t, .int .i64 k, .int .i64 h.F, .int .i64 h.Q, .int .i64 h.T, .int .i64 h.L, .int .i64 h.B, .int .i64 h.K, .int .i64 id, .slice da d.length dc, .int .i64 n, .int .i64 y] 34)).alloc (.cells #[.int .i64 f', .int .i64 t', .int .i64 k', .int .i64 h'.F, .int .i64 h'.Q, .int .i64 h'.T, .int .i64 h'.L, .int .i64 h'.B, .int .i64 h'.K, .int .i64 id', .slice da' d'.length dc', .int .i64 n', .int .i64 y'] 34) = W := ⟨_, rfl⟩
  have hB : Below w.heap.size w W := by rw [← hW]; exact ((Below.refl _ _).alloc (Nat.le_refl _) _).alloc (by simp) _
  have hk : W.heap[w.heap.size]? = some (.cells #[.int .i64 f, .int .i64 t, .int .i64 k, .int .i64 h.F, .int .i64 h.Q, .int .i64 h.T, .int .i64 h.L, .int .i64 h.B, .int .i64 h.K, .int .i64 id, .slice da d.length dc, .int .i64 n, .int .i64 y] 34 (0, 0)) := by rw [← hW, heap_alloc_eq, if_neg (by simp), heap_alloc_eq, if_pos rfl]
  have hk' : W.heap[w.heap.size + 1]? = some (.cells #[.int .i64 f', .int .i64 t', .int .i64 k', .int .i64 h'.F, .int .i64 h'.Q, .int .i64 h'.T, .int .i64 h'.L, .int .i64 h'.B, .int .i64 h'.K, .int .i64 id', .slice da' d'.length dc', .int .i64 n', .int .i64 y'] 34 (0, 0)) := by rw [← hW, heap_alloc_eq, if_pos (by simp)]
  have HW := Shut.mk hW
  clear hW
  have q0 : ∀ u : Above W, u.w.cell? ⟨w.heap.size, 0, none⟩ = some (.int .i64 f) := fun u => Above.cell (cellB hk 0 _ rfl) u
  have q1 : ∀ u : Above W, u.w.cell? ⟨w.heap.size, 1, none⟩ = some (.int .i64 t) := fun u => Above.cell (cellB hk 1 _ rfl) u
  have q2 : ∀ u : Above W, u.w.cell? ⟨w.heap.size, 2, none⟩ = some (.int .i64 k) := fun u => Above.cell (cellB hk 2 _ rfl) u
  have q3 : ∀ u : Above W, u.w.cell? ⟨w.heap.size, 3, none⟩ = some (.int .i64 h.F) := fun u => Above.cell (cellB hk 3 _ rfl) u
  have q4 : ∀ u : Above W, u.w.cell? ⟨w.heap.size, 4, none⟩ = some (.int .i64 h.Q) := fun u => Above.cell (cellB hk 4 _ rfl) u
  have q5 : ∀ u : Above W, u.w.cell? ⟨w.heap.size, 5, none⟩ = some (.int .i64 h.T) := fun u => Above.cell (cellB hk 5 _ rfl) u
  have q6 : ∀ u : Above W, u.w.cell? ⟨w.heap.size, 6, none⟩ = some (.int .i64 h.L) := fun u => Above.cell (cellB hk 6 _ rfl) u
  have q7 : ∀ u : Above W, u.w.cell? ⟨w.heap.size, 7, none⟩ = some (.int .i64 h.B) := fun u => Above.cell (cellB hk 7 _ rfl) u
  have q8 : ∀ u : Above W, u.w.cell? ⟨w.heap.size, 8, none⟩ = some (.int .i64 h.K) := fun u => Above.cell (cellB hk 8 _ rfl) u
  have q9 : ∀ u : Above W, u.w.cell? ⟨w.heap.size, 9, none⟩ = some (.int .i64 id) := fun u => Above.cell (cellB hk 9 _ rfl) u
  have q10 : ∀ u : Above W, u.w.cell? ⟨w.heap.size, 10, none⟩ = some (.slice da d.length dc) := fun u => Above.cell (cellB hk 10 _ rfl) u
  have q11 : ∀ u : Above W, u.w.cell? ⟨w.heap.size, 11, none⟩ = some (.int .i64 n) := fun u => Above.cell (cellB hk 11 _ rfl) u
  have q12 : ∀ u : Above W, u.w.cell? ⟨w.heap.size, 12, none⟩ = some (.int .i64 y) := fun u => Above.cell (cellB hk 12 _ rfl) u
  have s0 : ∀ u : Above W, u.w.cell? ⟨w.heap.size + 1, 0, none⟩ = some (.int .i64 f') := fun u => Above.cell (cellB hk' 0 _ rfl) u
  have s1 : ∀ u : Above W, u.w.cell? ⟨w.heap.size + 1, 1, none⟩ = some (.int .i64 t') := fun u => Above.cell (cellB hk' 1 _ rfl) u
  have s2 : ∀ u : Above W, u.w.cell? ⟨w.heap.size + 1, 2, none⟩ = some (.int .i64 k') := fun u => Above.cell (cellB hk' 2 _ rfl) u
  have s3 : ∀ u : Above W, u.w.cell? ⟨w.heap.size + 1, 3, none⟩ = some (.int .i64 h'.F) := fun u => Above.cell (cellB hk' 3 _ rfl) u
  have s4 : ∀ u : Above W, u.w.cell? ⟨w.heap.size + 1, 4, none⟩ = some (.int .i64 h'.Q) := fun u => Above.cell (cellB hk' 4 _ rfl) u
  have s5 : ∀ u : Above W, u.w.cell? ⟨w.heap.size + 1, 5, none⟩ = some (.int .i64 h'.T) := fun u => Above.cell (cellB hk' 5 _ rfl) u
  have s6 : ∀ u : Above W, u.w.cell? ⟨w.heap.size + 1, 6, none⟩ = some (.int .i64 h'.L) := fun u => Above.cell (cellB hk' 6 _ rfl) u
  have s7 : ∀ u : Above W, u.w.cell? ⟨w.heap.size + 1, 7, none⟩ = some (.int .i64 h'.B) := fun u => Above.cell (cellB hk' 7 _ rfl) u
  have s8 : ∀ u : Above W, u.w.cell? ⟨w.heap.size + 1, 8, none⟩ = some (.int .i64 h'.K) := fun u => Above.cell (cellB hk' 8 _ rfl) u
  have s9 : ∀ u : Above W, u.w.cell? ⟨w.heap.size + 1, 9, none⟩ = some (.int .i64 id') := fun u => Above.cell (cellB hk' 9 _ rfl) u
  have s10 : ∀ u : Above W, u.w.cell? ⟨w.heap.size + 1, 10, none⟩ = some (.slice da' d'.length dc') := fun u => Above.cell (cellB hk' 10 _ rfl) u
  have s11 : ∀ u : Above W, u.w.cell? ⟨w.heap.size + 1, 11, none⟩ = some (.int .i64 n') := fun u => Above.cell (cellB hk' 11 _ rfl) u
  have s12 : ∀ u : Above W, u.w.cell? ⟨w.heap.size + 1, 12, none⟩ = some (.int .i64 y') := fun u => Above.cell (cellB hk' 12 _ rfl) u
  have cE1 : ∀ u : Above W, Calls Try.prog 26 #[.agg #[.int .i64 f, .int .i64 t, .int .i64 k, .int .i64 h.F, .int .i64 h.Q, .int .i64 h.T, .int .i64 h.L, .int .i64 h.B, .int .i64 h.K, .int .i64 id, .slice da d.length dc, .int .i64 n, .int .i64 y]] u.w fun e w' => e = .returned (.agg #[.int .i64 f, .int .i64 t]) ∧ Below u.w.heap.size u.w w' := fun u => ends_any f t k h id da d.length dc n y u.w
  have cE2 : ∀ u : Above W, Calls Try.prog 26 #[.agg #[.int .i64 f', .int .i64 t', .int .i64 k', .int .i64 h'.F, .int .i64 h'.Q, .int .i64 h'.T, .int .i64 h'.L, .int .i64 h'.B, .int .i64 h'.K, .int .i64 id', .slice da' d'.length dc', .int .i64 n', .int .i64 y']] u.w fun e w' => e = .returned (.agg #[.int .i64 f', .int .i64 t']) ∧ Below u.w.heap.size u.w w' := fun u => ends_any f' t' k' h' id' da' d'.length dc' n' y' u.w
  have hE := eqlEnds f t f' t'
  have EZ : Shut (decide (f = f' ∧ t = t') = true ↔ (f = f' ∧ t = t')) := ⟨by simp⟩
  generalize decide (f = f' ∧ t = t') = z at hE EZ
  obtain ⟨dd, hdd⟩ : ∃ dd, decide (frEq k h id d n y k' h' id' d' n' y') = dd := ⟨_, rfl⟩
  have ED : Shut (dd = true ↔ frEq k h id d n y k' h' id' d' n' y') := ⟨by rw [← hdd]; simp⟩
  have cF : ∀ u : Above W, Calls Try.prog 30 #[.agg #[.int .i64 k, .int .i64 h.F, .int .i64 h.Q, .int .i64 h.T, .int .i64 h.L, .int .i64 h.B, .int .i64 h.K, .int .i64 id, .slice da d.length dc, .int .i64 n, .int .i64 y], .agg #[.int .i64 k', .int .i64 h'.F, .int .i64 h'.Q, .int .i64 h'.T, .int .i64 h'.L, .int .i64 h'.B, .int .i64 h'.K, .int .i64 id', .slice da' d'.length dc', .int .i64 n', .int .i64 y']] u.w fun e w' => e = .returned (.bool dd) ∧ Below u.w.heap.size u.w w' := fun u => by
    have hx := wSameFrame_any k h id da d dc n y k' h' id' da' d' dc' n' y' u.w (hl.below (hB.trans (u.below.mono hB.size)) (Nat.le_refl _)) (hl'.below (hB.trans (u.below.mono hB.size)) (Nat.le_refl _))
    rw [hdd] at hx
    exact hx
  clear hk hk' hdd hl hl'
  cases z with
  | false =>
    have R : Shut (N = false) := ⟨by rw [← sN.out]; exact decide_eq_false fun e => absurd (EZ.out.2 ⟨e.1, e.2.1⟩) (by simp)⟩
    clear cF
    go_enter Try.func23, Try.ntmps23
    go_upto_region 1 with fail
    rw [HW.out]
    clear HW
    refine wp_region_above (by kernel_rfl) (by kernel_rfl) ?_
    iterate 13 (go_big_quiet_step (first | rfl | (go_at_call 26; first | exact Calls.above (cE1 _) | exact Calls.above (cE2 _))))
    refine wpQuiet_nil ?_
    rintro _ ⟨u, rfl⟩
    have hF := hB.trans (u.below.mono hB.size)
    clear cE1 cE2 q0 q1 q2 q3 q4 q5 q6 q7 q8 q9 q10 q11 q12 s0 s1 s2 s3 s4 s5 s6 s7 s8 s9 s10 s11 s12
    generalize u.w = W3 at *
    go_wp2
    go_ret
    exact ⟨by rw [R.out]; rfl, hF⟩
  | true =>
    have R : Shut (N = dd) := ⟨by
      rw [← sN.out]
      have h1 := EZ.out.1 (by trivial)
      cases dd with
      | true => exact decide_eq_true ⟨h1.1, h1.2, ED.out.1 (by trivial)⟩
      | false => exact decide_eq_false fun e => absurd (ED.out.2 e.2.2) (by simp)⟩
    go_enter Try.func23, Try.ntmps23
    go_upto_region 1 with fail
    rw [HW.out]
    clear HW
    refine wp_region_above (by kernel_rfl) (by kernel_rfl) ?_
    iterate 13 (go_big_quiet_step (first | rfl | (go_at_call 26; first | exact Calls.above (cE1 _) | exact Calls.above (cE2 _)) | (go_at_call 30; exact Calls.above (cF _))))
    refine wpQuiet_nil ?_
    rintro _ ⟨u, rfl⟩
    have hF := hB.trans (u.below.mono hB.size)
    clear cE1 cE2 cF q0 q1 q2 q3 q4 q5 q6 q7 q8 q9 q10 q11 q12 s0 s1 s2 s3 s4 s5 s6 s7 s8 s9 s10 s11 s12
    generalize u.w = W3 at *
    go_wp2
    go_ret
    exact ⟨by rw [R.out]; rfl, hF⟩

end Go.Proofs.Ythhhlampphlmgaa

/-
  Chapter 10: slices.EqualFunc at mails; package way's Same, the reference's SameMail.
-/
namespace Go.Proofs.Ythhhlampphlmgaa
open Go.RowKit
set_option linter.unusedVariables false
set_option linter.unusedSimpArgs false

/-- its bytes are no more than a slice can have -/
def MlShort (y : MMl) : Prop := y.m.d.length ≤ maxLen

theorem ml_eq (a b : Ml) : (a.f = b.f ∧ a.t = b.t ∧ frEq a.k a.h a.id a.d a.n a.y b.k b.h b.id b.d b.n b.y) ↔ a = b := by
  obtain ⟨f, t, k, h, id, d, n, y⟩ := a
  obtain ⟨f', t', k', h', id', d', n', y'⟩ := b
  simp only [frEq, Ml.mk.injEq]

theorem wMlSame_any (x y : MMl) (w : World) (hx : MailIn w x) (hy : MailIn w y) (sx : MlShort x) (sy : MlShort y) :
    Calls Try.prog 23 #[x.val, y.val] w fun e w' => e = .returned (.bool (decide (x.m = y.m))) ∧ Below w.heap.size w w' := by
  have h := wMailSame_any x.m.f x.m.t x.m.k x.m.h x.m.id x.da x.m.d x.dc x.m.n x.m.y y.m.f y.m.t y.m.k y.m.h y.m.id y.da y.m.d y.dc y.m.n y.m.y w hx hy
  rw [decide_eq_decide.2 (ml_eq x.m y.m)] at h
  exact h

theorem rMlSame_any (x y : MMl) (w : World) (hx : MailIn w x) (hy : MailIn w y) (sx : MlShort x) (sy : MlShort y) :
    Calls Try.prog 24 #[x.val, y.val] w fun e w' => e = .returned (.bool (decide (x.m = y.m))) ∧ Below w.heap.size w w' := by
  have h := rMail_any x.m.f x.m.t x.m.k x.m.h x.m.id x.da x.m.d x.dc x.m.n x.m.y y.m.f y.m.t y.m.k y.m.h y.m.id y.da y.m.d y.dc y.m.n y.m.y w hx hy sx sy
  rw [decide_eq_decide.2 (ml_eq x.m y.m)] at h
  exact h

set_option maxHeartbeats 2000000 in
set_option maxRecDepth 8000 in
theorem equalMl_any (f : Nat) (eg : ∀ args w, (callFunc f args).run Try.prog w = .ok (.enter f args) w)
    (hf : ∀ (x y : MMl) (w : World), MailIn w x → MailIn w y → MlShort x → MlShort y → Calls Try.prog f #[x.val, y.val] w fun e w' => e = .returned (.bool (decide (x.m = y.m))) ∧ Below w.heap.size w w')
    (a b : Option Addr) (ca cb : Nat) (xl yl : List MMl) (w : World) (hx : xl.length ≤ maxLen) (hy : yl.length ≤ maxLen) (ha : Lies w a (mailCells xl)) (hb : Lies w b (mailCells yl)) (hxa : ∀ y ∈ xl, MailIn w y ∧ MlShort y) (hya : ∀ y ∈ yl, MailIn w y ∧ MlShort y) :
    Calls Try.prog 22 #[.slice a xl.length ca, .slice b yl.length cb, .func (.func f) #[] #[]] w fun e w' => e = .returned (.bool (decide (xl.map MMl.m = yl.map MMl.m))) ∧ Below w.heap.size w w' := by
  obtain ⟨N, hN⟩ : ∃ N, decide (xl.map MMl.m = yl.map MMl.m) = N := ⟨_, rfl⟩
  rw [hN]
  have sN := Shut.mk hN
  have HF := Shut.mk hf
  clear hN hf
  by_cases hl : xl.length = yl.length
  · obtain ⟨n, hn⟩ : ∃ n, xl.length = n := ⟨_, rfl⟩
    have hn2 : yl.length = n := by omega
    have HL := Shut.mk (And.intro hn hn2)
    rw [hn, hn2]
    rw [hn] at hx
    unfold maxLen at hx
    clear hl hn hn2 hy
    go_enter Try.func22, Try.ntmps22
    go_wp2
    go_loopw [17] (fun i wr => ∃ k : Nat, k ≤ n ∧ i = .int .i64 k ∧ Shut ((xl.map MMl.m).take k = (yl.map MMl.m).take k ∧ Below w.heap.size w wr)) (fun i _ => n - (intOf i).toNat)
    case atStart => exact ⟨0, Nat.zero_le _, rfl, ⟨rfl, Below.refl _ _⟩⟩
    case round =>
      obtain ⟨k, hk, rfl, HI⟩ := hrel
      obtain ⟨htk, hbr⟩ := HI.out
      by_cases hlt : k < n
      · obtain ⟨b1, o1, rfl⟩ := ha.some (k := 0) (by rw [mailCells_length, HL.out.1]; omega)
        obtain ⟨b2, o2, rfl⟩ := hb.some (k := 0) (by rw [mailCells_length, HL.out.2]; omega)
        obtain ⟨x, hxk⟩ : ∃ x, xl[k]? = some x := ⟨_, List.getElem?_eq_getElem (by rw [HL.out.1]; exact hlt)⟩
        obtain ⟨y, hyk⟩ : ∃ y, yl[k]? = some y := ⟨_, List.getElem?_eq_getElem (by rw [HL.out.2]; exact hlt)⟩
        have h1 := And.intro (ha.below hbr (Nat.le_refl _)) hxk
        have h2 := And.intro (hb.below hbr (Nat.le_refl _)) hyk
        obtain ⟨hx1, hx2⟩ := hxa x (List.mem_of_getElem? hxk)
        obtain ⟨hy1, hy2⟩ := hya y (List.mem_of_getElem? hyk)
        have HK : Shut ((xl.map MMl.m).take k = (yl.map MMl.m).take k ∧ xl[k]? = some x ∧ yl[k]? = some y) := ⟨htk, hxk, hyk⟩
        clear htk hxk hyk HI
        have p0 : wr.cell? ⟨b1, o1 + k * 13, none⟩ = some (.int .i64 x.m.f) := mails_cell h1 0 rfl
        have p1 : wr.cell? ⟨b1, o1 + k * 13 + 1, none⟩ = some (.int .i64 x.m.t) := mails_cell h1 1 rfl
        have p2 : wr.cell? ⟨b1, o1 + k * 13 + 2, none⟩ = some (.int .i64 x.m.k) := mails_cell h1 2 rfl
        have p3 : wr.cell? ⟨b1, o1 + k * 13 + 3, none⟩ = some (.int .i64 x.m.h.F) := mails_cell h1 3 rfl
        have p4 : wr.cell? ⟨b1, o1 + k * 13 + 4, none⟩ = some (.int .i64 x.m.h.Q) := mails_cell h1 4 rfl
        have p5 : wr.cell? ⟨b1, o1 + k * 13 + 5, none⟩ = some (.int .i64 x.m.h.T) := mails_cell h1 5 rfl
        have p6 : wr.cell? ⟨b1, o1 + k * 13 + 6, none⟩ = some (.int .i64 x.m.h.L) := mails_cell h1 6 rfl
        have p7 : wr.cell? ⟨b1, o1 + k * 13 + 7, none⟩ = some (.int .i64 x.m.h.B) := mails_cell h1 7 rfl
        have p8 : wr.cell? ⟨b1, o1 + k * 13 + 8, none⟩ = some (.int .i64 x.m.h.K) := mails_cell h1 8 rfl
        have p9 : wr.cell? ⟨b1, o1 + k * 13 + 9, none⟩ = some (.int .i64 x.m.id) := mails_cell h1 9 rfl
        have p10 : wr.cell? ⟨b1, o1 + k * 13 + 10, none⟩ = some (.slice x.da x.m.d.length x.dc) := mails_cell h1 10 rfl
        have p11 : wr.cell? ⟨b1, o1 + k * 13 + 11, none⟩ = some (.int .i64 x.m.n) := mails_cell h1 11 rfl
        have p12 : wr.cell? ⟨b1, o1 + k * 13 + 12, none⟩ = some (.int .i64 x.m.y) := mails_cell h1 12 rfl
        go_upto_region 6 with fail
        generalize hW1 : wr.alloc (.cells #[.int .i64 x.m.f, .int .i64 x.m.t, .int .i64 x.m.k, .int .i64 x.m.h.F, .int .i64 x.m.h.Q, .int .i64 x.m.h.T, .int .i64 x.m.h.L, .int .i64 x.m.h.B, .int .i64 x.m.h.K, .int .i64 x.m.id, .slice x.da x.m.d.length x.dc, .int .i64 x.m.n, .int .i64 x.m.y] 34) = W1
        have hb1 : Below wr.heap.size wr W1 := by rw [← hW1]; exact (Below.refl _ _).alloc (Nat.le_refl _) _
        have hq1 : W1.heap[wr.heap.size]? = some (.cells #[.int .i64 x.m.f, .int .i64 x.m.t, .int .i64 x.m.k, .int .i64 x.m.h.F, .int .i64 x.m.h.Q, .int .i64 x.m.h.T, .int .i64 x.m.h.L, .int .i64 x.m.h.B, .int .i64 x.m.h.K, .int .i64 x.m.id, .slice x.da x.m.d.length x.dc, .int .i64 x.m.n, .int .i64 x.m.y] 34 (0, 0)) := by rw [← hW1, heap_alloc_eq, if_pos rfl]
        have h3 := And.intro (h2.1.below hb1 (Nat.le_refl _)) h2.2
        clear hW1 h1 h2 p0 p1 p2 p3 p4 p5 p6 p7 p8 p9 p10 p11 p12
        have p0 : W1.cell? ⟨b2, o2 + k * 13, none⟩ = some (.int .i64 y.m.f) := mails_cell h3 0 rfl
        have p1 : W1.cell? ⟨b2, o2 + k * 13 + 1, none⟩ = some (.int .i64 y.m.t) := mails_cell h3 1 rfl
        have p2 : W1.cell? ⟨b2, o2 + k * 13 + 2, none⟩ = some (.int .i64 y.m.k) := mails_cell h3 2 rfl
        have p3 : W1.cell? ⟨b2, o2 + k * 13 + 3, none⟩ = some (.int .i64 y.m.h.F) := mails_cell h3 3 rfl
        have p4 : W1.cell? ⟨b2, o2 + k * 13 + 4, none⟩ = some (.int .i64 y.m.h.Q) := mails_cell h3 4 rfl
        have p5 : W1.cell? ⟨b2, o2 + k * 13 + 5, none⟩ = some (.int .i64 y.m.h.T) := mails_cell h3 5 rfl
        have p6 : W1.cell? ⟨b2, o2 + k * 13 + 6, none⟩ = some (.int .i64 y.m.h.L) := mails_cell h3 6 rfl
        have p7 : W1.cell? ⟨b2, o2 + k * 13 + 7, none⟩ = some (.int .i64 y.m.h.B) := mails_cell h3 7 rfl
        have p8 : W1.cell? ⟨b2, o2 + k * 13 + 8, none⟩ = some (.int .i64 y.m.h.K) := mails_cell h3 8 rfl
        have p9 : W1.cell? ⟨b2, o2 + k * 13 + 9, none⟩ = some (.int .i64 y.m.id) := mails_cell h3 9 rfl
        have p10 : W1.cell? ⟨b2, o2 + k * 13 + 10, none⟩ = some (.slice y.da y.m.d.length y.dc) := mails_cell h3 10 rfl
        have p11 : W1.cell? ⟨b2, o2 + k * 13 + 11, none⟩ = some (.int .i64 y.m.n) := mails_cell h3 11 rfl
        have p12 : W1.cell? ⟨b2, o2 + k * 13 + 12, none⟩ = some (.int .i64 y.m.y) := mails_cell h3 12 rfl
        go_upto_region 7 with fail
        generalize hW2 : W1.alloc (.cells #[.int .i64 y.m.f, .int .i64 y.m.t, .int .i64 y.m.k, .int .i64 y.m.h.F, .int .i64 y.m.h.Q, .int .i64 y.m.h.T, .int .i64 y.m.h.L, .int .i64 y.m.h.B, .int .i64 y.m.h.K, .int .i64 y.m.id, .slice y.da y.m.d.length y.dc, .int .i64 y.m.n, .int .i64 y.m.y] 34) = W2
        have hb2 : Below W1.heap.size W1 W2 := by rw [← hW2]; exact (Below.refl _ _).alloc (Nat.le_refl _) _
        have hq2 : W2.heap[W1.heap.size]? = some (.cells #[.int .i64 y.m.f, .int .i64 y.m.t, .int .i64 y.m.k, .int .i64 y.m.h.F, .int .i64 y.m.h.Q, .int .i64 y.m.h.T, .int .i64 y.m.h.L, .int .i64 y.m.h.B, .int .i64 y.m.h.K, .int .i64 y.m.id, .slice y.da y.m.d.length y.dc, .int .i64 y.m.n, .int .i64 y.m.y] 34 (0, 0)) := by rw [← hW2, heap_alloc_eq, if_pos rfl]
        have hq3 := blkB hq1 hb2
        have hB2 := (hbr.trans (hb1.mono hbr.size)).trans (hb2.mono (hbr.trans (hb1.mono hbr.size)).size)
        have hC := HF.out x y W2 (hx1.below hB2) (hy1.below hB2) hx2 hy2
        simp only [MMl.val] at hC
        clear hW2 h3 hq1 hb1 hb2 hx1 hy1 hx2 hy2 p0 p1 p2 p3 p4 p5 p6 p7 p8 p9 p10 p11 p12
        have p0 : W2.cell? ⟨wr.heap.size, 0, none⟩ = some (.int .i64 x.m.f) := cellB hq3 0 _ rfl
        have p1 : W2.cell? ⟨wr.heap.size, 1, none⟩ = some (.int .i64 x.m.t) := cellB hq3 1 _ rfl
        have p2 : W2.cell? ⟨wr.heap.size, 2, none⟩ = some (.int .i64 x.m.k) := cellB hq3 2 _ rfl
        have p3 : W2.cell? ⟨wr.heap.size, 3, none⟩ = some (.int .i64 x.m.h.F) := cellB hq3 3 _ rfl
        have p4 : W2.cell? ⟨wr.heap.size, 4, none⟩ = some (.int .i64 x.m.h.Q) := cellB hq3 4 _ rfl
        have p5 : W2.cell? ⟨wr.heap.size, 5, none⟩ = some (.int .i64 x.m.h.T) := cellB hq3 5 _ rfl
        have p6 : W2.cell? ⟨wr.heap.size, 6, none⟩ = some (.int .i64 x.m.h.L) := cellB hq3 6 _ rfl
        have p7 : W2.cell? ⟨wr.heap.size, 7, none⟩ = some (.int .i64 x.m.h.B) := cellB hq3 7 _ rfl
        have p8 : W2.cell? ⟨wr.heap.size, 8, none⟩ = some (.int .i64 x.m.h.K) := cellB hq3 8 _ rfl
        have p9 : W2.cell? ⟨wr.heap.size, 9, none⟩ = some (.int .i64 x.m.id) := cellB hq3 9 _ rfl
        have p10 : W2.cell? ⟨wr.heap.size, 10, none⟩ = some (.slice x.da x.m.d.length x.dc) := cellB hq3 10 _ rfl
        have p11 : W2.cell? ⟨wr.heap.size, 11, none⟩ = some (.int .i64 x.m.n) := cellB hq3 11 _ rfl
        have p12 : W2.cell? ⟨wr.heap.size, 12, none⟩ = some (.int .i64 x.m.y) := cellB hq3 12 _ rfl
        have q0 : W2.cell? ⟨W1.heap.size, 0, none⟩ = some (.int .i64 y.m.f) := cellB hq2 0 _ rfl
        have q1 : W2.cell? ⟨W1.heap.size, 1, none⟩ = some (.int .i64 y.m.t) := cellB hq2 1 _ rfl
        have q2 : W2.cell? ⟨W1.heap.size, 2, none⟩ = some (.int .i64 y.m.k) := cellB hq2 2 _ rfl
        have q3 : W2.cell? ⟨W1.heap.size, 3, none⟩ = some (.int .i64 y.m.h.F) := cellB hq2 3 _ rfl
        have q4 : W2.cell? ⟨W1.heap.size, 4, none⟩ = some (.int .i64 y.m.h.Q) := cellB hq2 4 _ rfl
        have q5 : W2.cell? ⟨W1.heap.size, 5, none⟩ = some (.int .i64 y.m.h.T) := cellB hq2 5 _ rfl
        have q6 : W2.cell? ⟨W1.heap.size, 6, none⟩ = some (.int .i64 y.m.h.L) := cellB hq2 6 _ rfl
        have q7 : W2.cell? ⟨W1.heap.size, 7, none⟩ = some (.int .i64 y.m.h.B) := cellB hq2 7 _ rfl
        have q8 : W2.cell? ⟨W1.heap.size, 8, none⟩ = some (.int .i64 y.m.h.K) := cellB hq2 8 _ rfl
        have q9 : W2.cell? ⟨W1.heap.size, 9, none⟩ = some (.int .i64 y.m.id) := cellB hq2 9 _ rfl
        have q10 : W2.cell? ⟨W1.heap.size, 10, none⟩ = some (.slice y.da y.m.d.length y.dc) := cellB hq2 10 _ rfl
        have q11 : W2.cell? ⟨W1.heap.size, 11, none⟩ = some (.int .i64 y.m.n) := cellB hq2 11 _ rfl
        have q12 : W2.cell? ⟨W1.heap.size, 12, none⟩ = some (.int .i64 y.m.y) := cellB hq2 12 _ rfl
        go_wp2_with fail
        refine hC.mono ?_
        rintro e W3 ⟨rfl, hb3⟩
        have hB3 := hB2.trans (hb3.mono hB2.size)
        clear hC hb3 hq2 hq3 hB2 p0 q0 p1 q1 p2 q2 p3 q3 p4 q4 p5 q5 p6 q6 p7 q7 p8 q8 p9 q9 p10 q10 p11 q11 p12 q12
        by_cases hd : x.m = y.m
        · have R : Shut ((xl.map MMl.m).take (k + 1) = (yl.map MMl.m).take (k + 1) ∧ Below w.heap.size w W3) := ⟨by
            rw [List.take_add_one, List.take_add_one, HK.out.1, List.getElem?_map, List.getElem?_map, HK.out.2.1, HK.out.2.2]
            simp [hd], hB3⟩
          rw [decide_eq_true hd]
          clear hd hB3
          go_wp2
          go_roundw
          case rel => exact ⟨k + 1, by omega, by go_num, R⟩
          case measure => simp [intOf]; omega
        · have HD : Shut (N = false) := ⟨by
            rw [← sN.out]
            refine decide_eq_false fun e => hd ?_
            have h1 : (xl.map MMl.m)[k]? = (yl.map MMl.m)[k]? := by rw [e]
            rw [List.getElem?_map, List.getElem?_map, HK.out.2.1, HK.out.2.2] at h1
            simpa using h1⟩
          rw [decide_eq_false hd]
          clear hd
          go_wp2
          go_ret
          exact ⟨by rw [HD.out]; rfl, hB3⟩
      · have HD : Shut (N = true) := ⟨by
          rw [← sN.out]
          refine decide_eq_true ?_
          rw [List.take_of_length_le (by rw [List.length_map, HL.out.1]; omega), List.take_of_length_le (by rw [List.length_map, HL.out.2]; omega)] at htk
          exact htk⟩
        clear HI htk
        go_wp2
        go_ret
        exact ⟨by rw [HD.out]; rfl, hbr⟩
  · have hne : ((xl.length : Int) != (yl.length : Int)) = true := by simp; omega
    have HD : Shut (N = false) := ⟨by rw [← sN.out]; exact decide_eq_false fun e => hl (by have := congrArg List.length e; simpa using this)⟩
    clear hl ha hb
    go_enter Try.func22, Try.ntmps22
    go_wp2
    go_ret
    exact ⟨by rw [HD.out]; rfl, Below.refl _ _⟩

theorem waySame_any (a b : Option Addr) (ca cb : Nat) (xl yl : List MMl) (w : World) (hx : xl.length ≤ maxLen) (hy : yl.length ≤ maxLen) (ha : Lies w a (mailCells xl)) (hb : Lies w b (mailCells yl)) (hxa : ∀ y ∈ xl, MailIn w y ∧ MlShort y) (hya : ∀ y ∈ yl, MailIn w y ∧ MlShort y) :
    Calls Try.prog 10 #[.slice a xl.length ca, .slice b yl.length cb] w fun e w' => e = .returned (.bool (decide (xl.map MMl.m = yl.map MMl.m))) ∧ Below w.heap.size w w' := by
  have hC := equalMl_any 23 (enters_of Try.func23 (by kernel_rfl) rfl) wMlSame_any a b ca cb xl yl w hx hy ha hb hxa hya
  go_enter Try.func10, Try.ntmps10
  go_wp2_with fail
  refine hC.mono ?_
  rintro e W ⟨rfl, hb⟩
  go_wp2
  go_ret
  exact ⟨rfl, hb⟩

theorem refSameMail_any (a b : Option Addr) (ca cb : Nat) (xl yl : List MMl) (w : World) (hx : xl.length ≤ maxLen) (hy : yl.length ≤ maxLen) (ha : Lies w a (mailCells xl)) (hb : Lies w b (mailCells yl)) (hxa : ∀ y ∈ xl, MailIn w y ∧ MlShort y) (hya : ∀ y ∈ yl, MailIn w y ∧ MlShort y) :
    Calls Try.prog 11 #[.slice a xl.length ca, .slice b yl.length cb] w fun e w' => e = .returned (.bool (decide (xl.map MMl.m = yl.map MMl.m))) ∧ Below w.heap.size w w' := by
  have hC := equalMl_any 24 (enters_of Try.func24 (by kernel_rfl) rfl) rMlSame_any a b ca cb xl yl w hx hy ha hb hxa hya
  go_enter Try.func11, Try.ntmps11
  go_wp2_with fail
  refine hC.mono ?_
  rintro e W ⟨rfl, hb⟩
  go_wp2
  go_ret
  exact ⟨rfl, hb⟩

end Go.Proofs.Ythhhlampphlmgaa
