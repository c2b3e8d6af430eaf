import Derived.Test.YtakkajjoeimkdaaGreatDoorPart1
import Derived.Test.YtakkajjoeimkdaaGreatDoorPart3
import Derived.Test.YtakkajjoeimkdaaGreatDoorPart5
import Derived.Orders
import Derived.Test.YtakkajjoeimkdaaGreatDoorPart2
namespace Go.Proofs.YtakkajjoeimkdaaGreatDoor
open Go.RowKit
set_option linter.unusedVariables false
set_option linter.unusedSimpArgs false

theorem within_any (n a b : Int) (w : World) :
  Calls Tryz.prog 62 #[.int .i64 n, .int .i64 a, .int .i64 b] w fun e w' => e = .returned (.bool (decide (a ≤ n ∧ n ≤ b))) ∧ w = w' := by
 by_cases h : a ≤ n
 ·have h1 : (n ≥ a) := h
  go_enter Tryz.func62, Tryz.ntmps62
  go_wp2
  go_ret
  exact ⟨retB (by simp [h]), rfl⟩
 ·have hs := Shut.mk (show decide (a ≤ n ∧ n ≤ b) = false by simp [h])
  have h1 : ¬ (n ≥ a) := h
  go_enter Tryz.func62, Tryz.ntmps62
  go_wp2
  go_ret
  exact ⟨retB (by simpa using hs.out.symm), rfl⟩

set_option maxRecDepth 8000 in
theorem head_any (h : Hd) (w : World) (ho : h.ok) :
  Calls Tryz.prog 64 #[h.val] w fun e w' => e = .returned (.int .i64 (hdCode h)) ∧ Below w.heap.size w w' := by
 obtain ⟨F, Q, T, L, B, K⟩ := h
 obtain ⟨oF, oQ, oT, oL, oB, oK⟩ := ho
 simp only [Hd.val] at *
 have hBl : Below w.heap.size w (w.alloc (.cells #[.int .i64 F, .int .i64 Q, .int .i64 T, .int .i64 L, .int .i64 B, .int .i64 K] 34)) := (Below.refl _ _).alloc (Nat.le_refl _) _
 by_cases h1 : 0 ≤ F ∧ F ≤ 3
 ·by_cases h2 : 0 ≤ T ∧ T ≤ 3
  ·by_cases h3 : 0 ≤ Q ∧ Q ≤ 49
   ·by_cases h4 : 1 ≤ L ∧ L ≤ 1000000
    ·have d1 := Shut.mk (decide_eq_true h1)
     have d2 := Shut.mk (decide_eq_true h2)
     have d3 := Shut.mk (decide_eq_true h3)
     have d4 := Shut.mk (decide_eq_true h4)
     have hf : (⟨F, Q, T, L, B, K⟩ : Hd).fits := ⟨h1, h2, h3, h4⟩
     by_cases h5 : F = T
     ·have hc : hdCode ⟨F, Q, T, L, B, K⟩ = 5 := by rw [hdCode, if_neg (by simp [hf]), if_pos h5]
      have HC := Shut.mk hc
      have h5' : (F == T) = true := by simpa using h5
      clear h1 h2 h3 h4 hf hc h5
      go_enter Tryz.func64, Tryz.ntmps64
      go_wp2_with fail
      refine (within_any F 0 3 _).mono ?_
      rintro e w2 ⟨rfl, rfl⟩
      rw [d1.out]
      go_wp2_with fail
      refine (within_any T 0 3 _).mono ?_
      rintro e w2 ⟨rfl, rfl⟩
      rw [d2.out]
      go_wp2_with fail
      refine (within_any Q 0 49 _).mono ?_
      rintro e w2 ⟨rfl, rfl⟩
      rw [d3.out]
      go_wp2_with fail
      refine (within_any L 1 1000000 _).mono ?_
      rintro e w2 ⟨rfl, rfl⟩
      rw [d4.out]
      go_wp2
      go_ret
      exact ⟨ret_int HC.out.symm, hBl⟩
     ·have hc : hdCode ⟨F, Q, T, L, B, K⟩ = chkP B K := by rw [hdCode, if_neg (by simp [hf]), if_neg h5]
      have HC := Shut.mk hc
      have h5' : (F == T) = false := by simpa using h5
      have hP := cutCheck_any B K (w.alloc (.cells #[.int .i64 F, .int .i64 Q, .int .i64 T, .int .i64 L, .int .i64 B, .int .i64 K] 34)) oB oK
      clear h1 h2 h3 h4 hf hc h5
      go_enter Tryz.func64, Tryz.ntmps64
      go_wp2_with fail
      refine (within_any F 0 3 _).mono ?_
      rintro e w2 ⟨rfl, rfl⟩
      rw [d1.out]
      go_wp2_with fail
      refine (within_any T 0 3 _).mono ?_
      rintro e w2 ⟨rfl, rfl⟩
      rw [d2.out]
      go_wp2_with fail
      refine (within_any Q 0 49 _).mono ?_
      rintro e w2 ⟨rfl, rfl⟩
      rw [d3.out]
      go_wp2_with fail
      refine (within_any L 1 1000000 _).mono ?_
      rintro e w2 ⟨rfl, rfl⟩
      rw [d4.out]
      go_wp2_with fail
      refine hP.mono ?_
      rintro e w3 ⟨rfl, hb3⟩
      have hF := hBl.trans (hb3.mono hBl.size)
      clear hP hb3
      go_wp2
      go_ret
      exact ⟨ret_int HC.out.symm, hF⟩
    ·have d1 := Shut.mk (decide_eq_true h1)
     have d2 := Shut.mk (decide_eq_true h2)
     have d3 := Shut.mk (decide_eq_true h3)
     have d4 := Shut.mk (decide_eq_false h4)
     have HC : Shut (hdCode ⟨F, Q, T, L, B, K⟩ = 3) := ⟨by rw [hdCode, if_pos (fun hf => h4 hf.2.2.2)]⟩
     clear h1 h2 h3 h4
     go_enter Tryz.func64, Tryz.ntmps64
     go_wp2_with fail
     refine (within_any F 0 3 _).mono ?_
     rintro e w2 ⟨rfl, rfl⟩
     rw [d1.out]
     go_wp2_with fail
     refine (within_any T 0 3 _).mono ?_
     rintro e w2 ⟨rfl, rfl⟩
     rw [d2.out]
     go_wp2_with fail
     refine (within_any Q 0 49 _).mono ?_
     rintro e w2 ⟨rfl, rfl⟩
     rw [d3.out]
     go_wp2_with fail
     refine (within_any L 1 1000000 _).mono ?_
     rintro e w2 ⟨rfl, rfl⟩
     rw [d4.out]
     go_wp2
     go_ret
     exact ⟨ret_int HC.out.symm, hBl⟩
   ·have d1 := Shut.mk (decide_eq_true h1)
    have d2 := Shut.mk (decide_eq_true h2)
    have d3 := Shut.mk (decide_eq_false h3)
    have HC : Shut (hdCode ⟨F, Q, T, L, B, K⟩ = 3) := ⟨by rw [hdCode, if_pos (fun hf => h3 hf.2.2.1)]⟩
    clear h1 h2 h3
    go_enter Tryz.func64, Tryz.ntmps64
    go_wp2_with fail
    refine (within_any F 0 3 _).mono ?_
    rintro e w2 ⟨rfl, rfl⟩
    rw [d1.out]
    go_wp2_with fail
    refine (within_any T 0 3 _).mono ?_
    rintro e w2 ⟨rfl, rfl⟩
    rw [d2.out]
    go_wp2_with fail
    refine (within_any Q 0 49 _).mono ?_
    rintro e w2 ⟨rfl, rfl⟩
    rw [d3.out]
    go_wp2
    go_ret
    exact ⟨ret_int HC.out.symm, hBl⟩
  ·have d1 := Shut.mk (decide_eq_true h1)
   have d2 := Shut.mk (decide_eq_false h2)
   have HC : Shut (hdCode ⟨F, Q, T, L, B, K⟩ = 3) := ⟨by rw [hdCode, if_pos (fun hf => h2 hf.2.1)]⟩
   clear h1 h2
   go_enter Tryz.func64, Tryz.ntmps64
   go_wp2_with fail
   refine (within_any F 0 3 _).mono ?_
   rintro e w2 ⟨rfl, rfl⟩
   rw [d1.out]
   go_wp2_with fail
   refine (within_any T 0 3 _).mono ?_
   rintro e w2 ⟨rfl, rfl⟩
   rw [d2.out]
   go_wp2
   go_ret
   exact ⟨ret_int HC.out.symm, hBl⟩
 ·have d1 := Shut.mk (decide_eq_false h1)
  have HC : Shut (hdCode ⟨F, Q, T, L, B, K⟩ = 3) := ⟨by rw [hdCode, if_pos (fun hf => h1 hf.1)]⟩
  clear h1
  go_enter Tryz.func64, Tryz.ntmps64
  go_wp2_with fail
  refine (within_any F 0 3 _).mono ?_
  rintro e w2 ⟨rfl, rfl⟩
  rw [d1.out]
  go_wp2
  go_ret
  exact ⟨ret_int HC.out.symm, hBl⟩

def rcV (r : Rc) (da : Option Addr) (dc : Nat) (ca : Option Addr) (cc : Nat) : Value :=
 .agg #[.int .i64 r.k, .int .i64 r.p, .int .i64 r.n, .int .i64 r.y, .int .i64 r.h.F, .int .i64 r.h.Q, .int .i64 r.h.T, .int .i64 r.h.L, .int .i64 r.h.B, .int .i64 r.h.K, .int .i64 r.id, .slice da r.d.length dc, .slice ca r.c.length cc]

def splitQ (R : Act → World → Prop) (Q : Exit → Act → World → Prop) : Exit → Act → World → Prop
 | .normal, a, w => R a w
 | e, a, w => Q e a w

theorem wp_of_split {P : Program} {o : Oper} {a : Act} {w : World} {K : Act → World → Prop} {R : Act → World → Prop} {Q : Exit → Act → World → Prop} (hh : o.wp P a w K (splitQ R Q)) : o.wp P a w K Q := by
 unfold Oper.wp at *
 generalize (execOp a.eval o).run P w = r at *
 cases r with
 | ok n w' => cases n <;> exact hh
 | halt x w' => cases x <;> exact hh

theorem letsOut_of_split {R : Act → World → Prop} {Q : Exit → Act → World → Prop} (h : LetsOut (splitQ R Q)) : LetsOut Q := h

theorem wpList_split {P : Program} {ops : Array Oper} {R : Act → World → Prop} {Q : Exit → Act → World → Prop} (l2 : List Oper) (h2 : ∀ a w, R a w → wpList P ops Q l2 a w) :
  ∀ (l1 : List Oper) (a : Act) (w : World), wpList P ops (splitQ R Q) l1 a w → wpList P ops Q (l1 ++ l2) a w
 | [], a, w, h => h2 a w h
 | o :: rest, a, w, h => by
  rw [List.cons_append]
  unfold wpList at h ⊢
  split
  ·rename_i hw
   rw [if_pos hw] at h
   rcases h with h | ⟨h, h'⟩
   ·exact .inl (Oper.wp_mono (fun a w hh => wpList_split l2 h2 rest a w hh) (wp_of_split h))
   ·exact .inr ⟨h, letsOut_of_split h'⟩
  ·rename_i hw
   rw [if_neg hw] at h
   exact wpList_split l2 h2 rest _ w h

def puts (a : Act) (vs : List (Nat × Value)) : Act := { a with tmps := vs.foldl (fun t p => t.setIfInBounds p.1 p.2) a.tmps }

theorem part {P : Program} {ops : Array Oper} {Q : Exit → Act → World → Prop} {l : List Oper} {a : Act} {w : World} (k : Nat) (R : Act → Act → World → Prop)
  (h1 : wpList P ops (splitQ (R a) Q) (l.take k) a w) (h2 : ∀ a' w', R a a' w' → wpList P ops Q (l.drop k) a' w') : wpList P ops Q l a w := by
 have := wpList_split (l.drop k) h2 (l.take k) a w h1
 rwa [List.take_append_drop] at this

theorem inK_contains (k : Int) (l : List Int) : l.contains k = inK k l := by
 unfold inK
 induction l with
 | nil => rfl
 | cons a l ih => rw [List.contains_cons, List.any_cons, ih, show (k == a) = (a == k) from Bool.eq_iff_iff.2 (by rw [beq_iff_eq, beq_iff_eq]; exact ⟨fun e => e.symm, fun e => e.symm⟩)]

theorem needs_any (k : Int) (b n c g : Nat) (zs : List Int) (w : World) (hn : zs.length = n) (hs : n ≤ 8) (hc : ∀ j, j < zs.length → w.cell? ⟨b, 0 + j, none⟩ = some (.int .i64 (zs.getD j 0))) (hk : w.cell? ⟨g, 0, none⟩ = some (.int .i64 k)) :
  Calls Tryz.prog 100 #[.slice (some ⟨b, 0, none⟩) n c, .pointer (some ⟨g, 0, none⟩)] w fun e w' => e = .returned (.bool (inK k zs)) ∧ w = w' := by
 have hC := Tryz.slices_Contains_int b 0 n c zs k w (by omega) (by omega) hc
 rw [show zs.take n = zs by rw [← hn]; simp, inK_contains] at hC
 go_enter Tryz.func100, Tryz.ntmps100
 go_wp2_with fail
 refine hC.mono ?_
 rintro e w1 ⟨rfl, rfl⟩
 go_wp2
 go_ret
 exact ⟨rfl, rfl⟩

theorem entersNeeds : ∀ args w, (callFunc 100 args).run Tryz.prog w = .ok (.enter 100 args) w := enters_of Tryz.func100 (by kernel_rfl) rfl

theorem neqHead (a b : Hd) (W : World) : (binOp .neq 34 a.val b.val).run Tryz.prog W = .ok (.bool (!decide (a = b))) W := by
 have h := eqlHead a b W
 rw [Hd.val, Hd.val] at h ⊢
 rw [run_eql_struct] at h
 rw [run_neq_struct]
 generalize (Op.equalIn 10000 34 (.agg #[.int .i64 a.F, .int .i64 a.Q, .int .i64 a.T, .int .i64 a.L, .int .i64 a.B, .int .i64 a.K]) (.agg #[.int .i64 b.F, .int .i64 b.Q, .int .i64 b.T, .int .i64 b.L, .int .i64 b.B, .int .i64 b.K])).run Tryz.prog W = r at h ⊢
 revert h
 generalize decide (a = b) = d
 intro h
 cases r <;> simp_all [Result.andThen]

theorem needs_at (k : Int) (zs : List Int) (cs : Array Value) (R : Array Value) (g B n : Nat) (w W : World) (hb : W.heap[g]? = some (.cells R 40 (0, 0))) (hR : R[0]? = some (.int .i64 k)) (hB : Below w.heap.size w W) (hn : zs.length = n) (hs : n ≤ 8) (hcs : ∀ j, j < zs.length → cs[j]? = some (.int .i64 (zs.getD j 0))) :
  Calls Tryz.prog 100 #[.slice (some ⟨W.heap.size, 0, none⟩) n n, .pointer (some ⟨g, 0, none⟩)] (W.alloc (.cells cs 3)) fun e w' => e = .returned (.bool (inK k zs)) ∧ w'.heap[g]? = some (.cells R 40 (0, 0)) ∧ Below w.heap.size w w' := by
 have hbk : (W.alloc (.cells cs 3)).heap[W.heap.size]? = some (.cells cs 3 (0, 0)) := by rw [heap_alloc_eq, if_pos rfl]
 have hb2 := blkB hb ((Below.refl W.heap.size W).alloc (Nat.le_refl _) (.cells cs 3))
 refine (needs_any k W.heap.size n n g zs _ hn hs (fun j hj => by rw [Nat.zero_add]; exact cellB hbk j _ (hcs j hj)) (cellB hb2 0 _ hR)).mono ?_
 rintro e w' ⟨rfl, rfl⟩
 exact ⟨rfl, hb2, hB.alloc hB.size _⟩

set_option maxHeartbeats 40000000 in
set_option maxRecDepth 8000 in
theorem hasNeedless_any (k p n y : Int) (h : Hd) (id : Int) (da : Option Addr) (dn dc : Nat) (ca : Option Addr) (cn cc : Nat) (w : World) :
  Calls Tryz.prog 63 #[.agg #[.int .i64 k, .int .i64 p, .int .i64 n, .int .i64 y, .int .i64 h.F, .int .i64 h.Q, .int .i64 h.T, .int .i64 h.L, .int .i64 h.B, .int .i64 h.K, .int .i64 id, .slice da dn dc, .slice ca cn cc]] w fun e w' => e = .returned (.bool (needless k p n y h id dn cn)) ∧ Below w.heap.size w w' := by
 obtain ⟨F, Q, T, L, B, K⟩ := h
 simp only
 have eg := entersNeeds
 obtain ⟨W, hW⟩ : ∃ W, w.alloc (.cells #[.int .i64 k, .int .i64 p, .int .i64 n, .int .i64 y, .int .i64 F, .int .i64 Q, .int .i64 T, .int .i64 L, .int .i64 B, .int .i64 K, .int .i64 id, .slice da dn dc, .slice ca cn cc] 40) = W := ⟨_, rfl⟩
 have hBW : Below w.heap.size w W := by rw [← hW]; exact (Below.refl _ _).alloc (Nat.le_refl _) _
 have hbW : W.heap[w.heap.size]? = some (.cells #[.int .i64 k, .int .i64 p, .int .i64 n, .int .i64 y, .int .i64 F, .int .i64 Q, .int .i64 T, .int .i64 L, .int .i64 B, .int .i64 K, .int .i64 id, .slice da dn dc, .slice ca cn cc] 40 (0, 0)) := by rw [← hW, heap_alloc_eq, if_pos rfl]
 have hE : ∀ W, (binOp .neq 34 (.agg #[.int .i64 F, .int .i64 Q, .int .i64 T, .int .i64 L, .int .i64 B, .int .i64 K]) (.agg #[.int .i64 0, .int .i64 0, .int .i64 0, .int .i64 0, .int .i64 0, .int .i64 0])).run Tryz.prog W = .ok (.bool (!decide ((⟨F, Q, T, L, B, K⟩ : Hd) = ⟨0, 0, 0, 0, 0, 0⟩))) W := fun W => neqHead ⟨F, Q, T, L, B, K⟩ ⟨0, 0, 0, 0, 0, 0⟩ W
 have q10W : W.cell? ⟨w.heap.size, 10, none⟩ = some (.int .i64 id) := cellB hbW 10 _ rfl
 have q11W : W.cell? ⟨w.heap.size, 11, none⟩ = some (.slice da dn dc) := cellB hbW 11 _ rfl
 obtain ⟨N, hneed⟩ : ∃ N, needless k p n y ⟨F, Q, T, L, B, K⟩ id dn cn = N := ⟨_, rfl⟩
 rw [hneed]
 rw [needless] at hneed
 generalize hz4 : decide ((⟨F, Q, T, L, B, K⟩ : Hd) = ⟨0, 0, 0, 0, 0, 0⟩) = z4 at hE hneed
 go_enter Tryz.func63, Tryz.ntmps63
 go_upto_region 2 with fail
 go_cut [4] from 6 to 16 (fun s4 wc => s4 = .bool (!(id == 0) || decide ((0 : Int) < dn)) ∧ W = wc)
 case first =>
  cases bi : (id != 0) with
  | false =>
   have si := Shut.mk (show (id == 0) = true by simpa using bi)
   go_wp2_with fail
   go_meet
   exact ⟨by rw [si.out]; simp, rfl⟩
  | true =>
   have si := Shut.mk (show (id == 0) = false by simpa using bi)
   go_wp2_with fail
   go_meet
   exact ⟨by rw [si.out]; rfl, rfl⟩
 case rest =>
  obtain ⟨rfl, rfl⟩ := hcut
  clear hW q10W q11W
  generalize hsB : (!(id == 0) || decide ((0 : Int) < dn)) = sB at hneed
  generalize hcB : decide ((0 : Int) < cn) = cB at hneed
  go_upto_region 3 with fail
  refine wp_region_lit ?_
  generalize hx0 : (!(p == 0) && !inK k [4, 6]) = x0 at hneed
  refine part 10 (fun a0 a w' => ∃ u17 u18 u19 u20 u21 u22 u23 u24 u25 : Value, a = puts a0 [(17, u17), (18, u18), (19, u19), (20, u20), (21, u21), (22, u22), (23, u23), (24, u24), (25, u25), (26, .bool x0)] ∧ w'.heap[w.heap.size]? = some (.cells #[.int .i64 k, .int .i64 p, .int .i64 n, .int .i64 y, .int .i64 F, .int .i64 Q, .int .i64 T, .int .i64 L, .int .i64 B, .int .i64 K, .int .i64 id, .slice da dn dc, .slice ca cn cc] 40 (0, 0)) ∧ Below w.heap.size w w') ?f0 ?r0
  case f0 =>
   simp only [List.take_succ_cons, List.take_zero, puts, List.foldl_cons, List.foldl_nil, List.setIfInBounds_toArray, List.set_cons_succ, List.set_cons_zero]
   have q : W.cell? ⟨w.heap.size, 1, none⟩ = some (.int .i64 p) := cellB hbW 1 _ rfl
   cases b : (p != 0) with
   | false =>
    have s := Shut.mk (show (p == 0) = true by simpa using b)
    go_wp2_with fail
    have hy := (show (false : Bool) = x0 by rw [← hx0, s.out]; rfl)
    subst hy
    exact ⟨_, _, _, _, _, _, _, _, _, rfl, hbW, hBW⟩
   | true =>
    have s := Shut.mk (show (p == 0) = false by simpa using b)
    go_wp2_with fail
    refine (needs_at k [4, 6] _ _ w.heap.size 0 2 w W hbW rfl hBW rfl (by decide) (by intro j hj; match j, hj with | 0, _ => rfl | 1, _ => rfl)).mono ?_
    rintro e w1 ⟨rfl, hbw1, hBw1⟩
    cases hi : inK k [4, 6] with
    | false =>
     have si := Shut.mk hi
     go_wp2_with fail
     have hy := (show (true : Bool) = x0 by rw [← hx0, s.out, si.out]; rfl)
     subst hy
     exact ⟨_, _, _, _, _, _, _, _, _, rfl, hbw1, hBw1⟩
    | true =>
     have si := Shut.mk hi
     go_wp2_with fail
     have hy := (show (false : Bool) = x0 by rw [← hx0, s.out, si.out]; rfl)
     subst hy
     exact ⟨_, _, _, _, _, _, _, _, _, rfl, hbw1, hBw1⟩
  case r0 =>
  rintro a' V0 ⟨u17, u18, u19, u20, u21, u22, u23, u24, u25, ha, hbV0, hBV0⟩
  rw [ha]
  clear ha
  simp only [List.drop_succ_cons, List.drop_zero, puts, List.foldl_cons, List.foldl_nil, List.setIfInBounds_toArray, List.set_cons_succ, List.set_cons_zero]
  clear hx0
  generalize hx1 : (!(n == 0) && !inK k [1, 4, 6, 8]) = x1 at hneed
  generalize hr1 : (x0 || x1) = r1 at hneed
  refine part 11 (fun a0 a w' => ∃ u27 u28 u29 u30 u31 u32 u33 u34 u35 u36 : Value, a = puts a0 [(27, u27), (28, u28), (29, u29), (30, u30), (31, u31), (32, u32), (33, u33), (34, u34), (35, u35), (36, u36), (37, .bool r1)] ∧ w'.heap[w.heap.size]? = some (.cells #[.int .i64 k, .int .i64 p, .int .i64 n, .int .i64 y, .int .i64 F, .int .i64 Q, .int .i64 T, .int .i64 L, .int .i64 B, .int .i64 K, .int .i64 id, .slice da dn dc, .slice ca cn cc] 40 (0, 0)) ∧ Below w.heap.size w w') ?f1 ?r1
  case f1 =>
   simp only [List.take_succ_cons, List.take_zero, puts, List.foldl_cons, List.foldl_nil, List.setIfInBounds_toArray, List.set_cons_succ, List.set_cons_zero]
   have q : V0.cell? ⟨w.heap.size, 2, none⟩ = some (.int .i64 n) := cellB hbV0 2 _ rfl
   cases hp1 : x0 with
   | true =>
    have sp := Shut.mk hp1
    go_wp2_with fail
    have hy := (show (true : Bool) = r1 by rw [← hr1, sp.out]; rfl)
    subst hy
    exact ⟨_, _, _, _, _, _, _, _, _, _, rfl, hbV0, hBV0⟩
   | false =>
    have sp := Shut.mk hp1
    cases b : (n != 0) with
    | false =>
     have s := Shut.mk (show (n == 0) = true by simpa using b)
     go_wp2_with fail
     have hy := (show (false : Bool) = r1 by rw [← hr1, sp.out, ← hx1, s.out]; rfl)
     subst hy
     exact ⟨_, _, _, _, _, _, _, _, _, _, rfl, hbV0, hBV0⟩
    | true =>
     have s := Shut.mk (show (n == 0) = false by simpa using b)
     go_wp2_with fail
     refine (needs_at k [1, 4, 6, 8] _ _ w.heap.size 0 4 w V0 hbV0 rfl hBV0 rfl (by decide) (by intro j hj; match j, hj with | 0, _ => rfl | 1, _ => rfl | 2, _ => rfl | 3, _ => rfl)).mono ?_
     rintro e w2 ⟨rfl, hbw2, hBw2⟩
     cases hi : inK k [1, 4, 6, 8] with
     | false =>
      have si := Shut.mk hi
      go_wp2_with fail
      have hy := (show (true : Bool) = r1 by rw [← hr1, sp.out, ← hx1, s.out, si.out]; rfl)
      subst hy
      exact ⟨_, _, _, _, _, _, _, _, _, _, rfl, hbw2, hBw2⟩
     | true =>
      have si := Shut.mk hi
      go_wp2_with fail
      have hy := (show (false : Bool) = r1 by rw [← hr1, sp.out, ← hx1, s.out, si.out]; rfl)
      subst hy
      exact ⟨_, _, _, _, _, _, _, _, _, _, rfl, hbw2, hBw2⟩
  case r1 =>
  rintro a' V1 ⟨u27, u28, u29, u30, u31, u32, u33, u34, u35, u36, ha, hbV1, hBV1⟩
  rw [ha]
  clear ha
  simp only [List.drop_succ_cons, List.drop_zero, puts, List.foldl_cons, List.foldl_nil, List.setIfInBounds_toArray, List.set_cons_succ, List.set_cons_zero]
  clear hr1 hx1
  generalize hx2 : (!(y == 0) && !inK k [4, 5, 6]) = x2 at hneed
  generalize hr2 : (r1 || x2) = r2 at hneed
  refine part 11 (fun a0 a w' => ∃ u38 u39 u40 u41 u42 u43 u44 u45 u46 u47 : Value, a = puts a0 [(38, u38), (39, u39), (40, u40), (41, u41), (42, u42), (43, u43), (44, u44), (45, u45), (46, u46), (47, u47), (48, .bool r2)] ∧ w'.heap[w.heap.size]? = some (.cells #[.int .i64 k, .int .i64 p, .int .i64 n, .int .i64 y, .int .i64 F, .int .i64 Q, .int .i64 T, .int .i64 L, .int .i64 B, .int .i64 K, .int .i64 id, .slice da dn dc, .slice ca cn cc] 40 (0, 0)) ∧ Below w.heap.size w w') ?f2 ?r2
  case f2 =>
   simp only [List.take_succ_cons, List.take_zero, puts, List.foldl_cons, List.foldl_nil, List.setIfInBounds_toArray, List.set_cons_succ, List.set_cons_zero]
   have q : V1.cell? ⟨w.heap.size, 3, none⟩ = some (.int .i64 y) := cellB hbV1 3 _ rfl
   cases hp2 : r1 with
   | true =>
    have sp := Shut.mk hp2
    go_wp2_with fail
    have hy := (show (true : Bool) = r2 by rw [← hr2, sp.out]; rfl)
    subst hy
    exact ⟨_, _, _, _, _, _, _, _, _, _, rfl, hbV1, hBV1⟩
   | false =>
    have sp := Shut.mk hp2
    cases b : (y != 0) with
    | false =>
     have s := Shut.mk (show (y == 0) = true by simpa using b)
     go_wp2_with fail
     have hy := (show (false : Bool) = r2 by rw [← hr2, sp.out, ← hx2, s.out]; rfl)
     subst hy
     exact ⟨_, _, _, _, _, _, _, _, _, _, rfl, hbV1, hBV1⟩
    | true =>
     have s := Shut.mk (show (y == 0) = false by simpa using b)
     go_wp2_with fail
     refine (needs_at k [4, 5, 6] _ _ w.heap.size 0 3 w V1 hbV1 rfl hBV1 rfl (by decide) (by intro j hj; match j, hj with | 0, _ => rfl | 1, _ => rfl | 2, _ => rfl)).mono ?_
     rintro e w3 ⟨rfl, hbw3, hBw3⟩
     cases hi : inK k [4, 5, 6] with
     | false =>
      have si := Shut.mk hi
      go_wp2_with fail
      have hy := (show (true : Bool) = r2 by rw [← hr2, sp.out, ← hx2, s.out, si.out]; rfl)
      subst hy
      exact ⟨_, _, _, _, _, _, _, _, _, _, rfl, hbw3, hBw3⟩
     | true =>
      have si := Shut.mk hi
      go_wp2_with fail
      have hy := (show (false : Bool) = r2 by rw [← hr2, sp.out, ← hx2, s.out, si.out]; rfl)
      subst hy
      exact ⟨_, _, _, _, _, _, _, _, _, _, rfl, hbw3, hBw3⟩
  case r2 =>
  rintro a' V2 ⟨u38, u39, u40, u41, u42, u43, u44, u45, u46, u47, ha, hbV2, hBV2⟩
  rw [ha]
  clear ha
  simp only [List.drop_succ_cons, List.drop_zero, puts, List.foldl_cons, List.foldl_nil, List.setIfInBounds_toArray, List.set_cons_succ, List.set_cons_zero]
  clear hr2 hx2
  generalize hx3 : (!z4 && inK k [8]) = x3 at hneed
  generalize hr3 : (r2 || x3) = r3 at hneed
  refine part 11 (fun a0 a w' => ∃ u49 u50 u51 u52 u53 u54 u55 u56 u57 u58 : Value, a = puts a0 [(49, u49), (50, u50), (51, u51), (52, u52), (53, u53), (54, u54), (55, u55), (56, u56), (57, u57), (58, u58), (59, .bool r3)] ∧ w'.heap[w.heap.size]? = some (.cells #[.int .i64 k, .int .i64 p, .int .i64 n, .int .i64 y, .int .i64 F, .int .i64 Q, .int .i64 T, .int .i64 L, .int .i64 B, .int .i64 K, .int .i64 id, .slice da dn dc, .slice ca cn cc] 40 (0, 0)) ∧ Below w.heap.size w w') ?f3 ?r3
  case f3 =>
   simp only [List.take_succ_cons, List.take_zero, puts, List.foldl_cons, List.foldl_nil, List.setIfInBounds_toArray, List.set_cons_succ, List.set_cons_zero]
   have q4 : V2.cell? ⟨w.heap.size, 4, none⟩ = some (.int .i64 F) := cellB hbV2 4 _ rfl
   have q5 : V2.cell? ⟨w.heap.size, 5, none⟩ = some (.int .i64 Q) := cellB hbV2 5 _ rfl
   have q6 : V2.cell? ⟨w.heap.size, 6, none⟩ = some (.int .i64 T) := cellB hbV2 6 _ rfl
   have q7 : V2.cell? ⟨w.heap.size, 7, none⟩ = some (.int .i64 L) := cellB hbV2 7 _ rfl
   have q8 : V2.cell? ⟨w.heap.size, 8, none⟩ = some (.int .i64 B) := cellB hbV2 8 _ rfl
   have q9 : V2.cell? ⟨w.heap.size, 9, none⟩ = some (.int .i64 K) := cellB hbV2 9 _ rfl
   cases hp3 : r2 with
   | true =>
    have sp := Shut.mk hp3
    go_wp2_with fail
    have hy := (show (true : Bool) = r3 by rw [← hr3, sp.out]; rfl)
    subst hy
    exact ⟨_, _, _, _, _, _, _, _, _, _, rfl, hbV2, hBV2⟩
   | false =>
    have sp := Shut.mk hp3
    cases b : z4 with
    | true =>
     have s := Shut.mk b
     go_wp2_with fail
     have hy := (show (false : Bool) = r3 by rw [← hr3, sp.out, ← hx3, s.out]; rfl)
     subst hy
     exact ⟨_, _, _, _, _, _, _, _, _, _, rfl, hbV2, hBV2⟩
    | false =>
     have s := Shut.mk b
     go_wp2_with fail
     refine (needs_at k [8] _ _ w.heap.size 0 1 w V2 hbV2 rfl hBV2 rfl (by decide) (by intro j hj; match j, hj with | 0, _ => rfl)).mono ?_
     rintro e w4 ⟨rfl, hbw4, hBw4⟩
     cases hi : inK k [8] with
     | false =>
      have si := Shut.mk hi
      go_wp2_with fail
      have hy := (show (false : Bool) = r3 by rw [← hr3, sp.out, ← hx3, s.out, si.out]; rfl)
      subst hy
      exact ⟨_, _, _, _, _, _, _, _, _, _, rfl, hbw4, hBw4⟩
     | true =>
      have si := Shut.mk hi
      go_wp2_with fail
      have hy := (show (true : Bool) = r3 by rw [← hr3, sp.out, ← hx3, s.out, si.out]; rfl)
      subst hy
      exact ⟨_, _, _, _, _, _, _, _, _, _, rfl, hbw4, hBw4⟩
  case r3 =>
  rintro a' V3 ⟨u49, u50, u51, u52, u53, u54, u55, u56, u57, u58, ha, hbV3, hBV3⟩
  rw [ha]
  clear ha
  simp only [List.drop_succ_cons, List.drop_zero, puts, List.foldl_cons, List.foldl_nil, List.setIfInBounds_toArray, List.set_cons_succ, List.set_cons_zero]
  clear hr3 hx3
  generalize hx4 : (sB && !inK k [2]) = x4 at hneed
  generalize hr4 : (r3 || x4) = r4 at hneed
  refine part 9 (fun a0 a w' => ∃ u60 u61 u62 u63 u64 u65 u66 u67 : Value, a = puts a0 [(60, u60), (61, u61), (62, u62), (63, u63), (64, u64), (65, u65), (66, u66), (67, u67), (68, .bool r4)] ∧ w'.heap[w.heap.size]? = some (.cells #[.int .i64 k, .int .i64 p, .int .i64 n, .int .i64 y, .int .i64 F, .int .i64 Q, .int .i64 T, .int .i64 L, .int .i64 B, .int .i64 K, .int .i64 id, .slice da dn dc, .slice ca cn cc] 40 (0, 0)) ∧ Below w.heap.size w w') ?f4 ?r4
  case f4 =>
   simp only [List.take_succ_cons, List.take_zero, puts, List.foldl_cons, List.foldl_nil, List.setIfInBounds_toArray, List.set_cons_succ, List.set_cons_zero]
   cases hp4 : r3 with
   | true =>
    have sp := Shut.mk hp4
    go_wp2_with fail
    have hy := (show (true : Bool) = r4 by rw [← hr4, sp.out]; rfl)
    subst hy
    exact ⟨_, _, _, _, _, _, _, _, rfl, hbV3, hBV3⟩
   | false =>
    have sp := Shut.mk hp4
    cases b : sB with
    | false =>
     have s := Shut.mk b
     go_wp2_with fail
     have hy := (show (false : Bool) = r4 by rw [← hr4, sp.out, ← hx4, s.out]; rfl)
     subst hy
     exact ⟨_, _, _, _, _, _, _, _, rfl, hbV3, hBV3⟩
    | true =>
     have s := Shut.mk b
     go_wp2_with fail
     refine (needs_at k [2] _ _ w.heap.size 0 1 w V3 hbV3 rfl hBV3 rfl (by decide) (by intro j hj; match j, hj with | 0, _ => rfl)).mono ?_
     rintro e w5 ⟨rfl, hbw5, hBw5⟩
     cases hi : inK k [2] with
     | false =>
      have si := Shut.mk hi
      go_wp2_with fail
      have hy := (show (true : Bool) = r4 by rw [← hr4, sp.out, ← hx4, s.out, si.out]; rfl)
      subst hy
      exact ⟨_, _, _, _, _, _, _, _, rfl, hbw5, hBw5⟩
     | true =>
      have si := Shut.mk hi
      go_wp2_with fail
      have hy := (show (false : Bool) = r4 by rw [← hr4, sp.out, ← hx4, s.out, si.out]; rfl)
      subst hy
      exact ⟨_, _, _, _, _, _, _, _, rfl, hbw5, hBw5⟩
  case r4 =>
  rintro a' V4 ⟨u60, u61, u62, u63, u64, u65, u66, u67, ha, hbV4, hBV4⟩
  rw [ha]
  clear ha
  simp only [List.drop_succ_cons, List.drop_zero, puts, List.foldl_cons, List.foldl_nil, List.setIfInBounds_toArray, List.set_cons_succ, List.set_cons_zero]
  clear hr4 hx4
  generalize hx5 : (cB && !inK k [1, 3]) = x5 at hneed
  generalize hr5 : (r4 || x5) = r5 at hneed
  have q : V4.cell? ⟨w.heap.size, 12, none⟩ = some (.slice ca cn cc) := cellB hbV4 12 _ rfl
  cases hp5 : r4 with
  | true =>
   have sp := Shut.mk hp5
   go_wp2_with fail
   go_ret
   exact ⟨retB (by rw [← hneed]; exact (show (true : Bool) = r5 by rw [← hr5, sp.out]; rfl)), hBV4⟩
  | false =>
   have sp := Shut.mk hp5
   cases b : cB with
   | false =>
    have s := Shut.mk b
    have b5 : ¬ 0 < cn := by simpa using hcB.trans b
    go_wp2_with fail
    go_ret
    exact ⟨retB (by rw [← hneed]; exact (show (false : Bool) = r5 by rw [← hr5, sp.out, ← hx5, s.out]; rfl)), hBV4⟩
   | true =>
    have s := Shut.mk b
    have b5 : 0 < cn := by simpa using hcB.trans b
    go_wp2_with fail
    refine (needs_at k [1, 3] _ _ w.heap.size 0 2 w V4 hbV4 rfl hBV4 rfl (by decide) (by intro j hj; match j, hj with | 0, _ => rfl | 1, _ => rfl)).mono ?_
    rintro e w6 ⟨rfl, hbw6, hBw6⟩
    cases hi : inK k [1, 3] with
    | false =>
     have si := Shut.mk hi
     go_wp2_with fail
     go_ret
     exact ⟨retB (by rw [← hneed]; exact (show (true : Bool) = r5 by rw [← hr5, sp.out, ← hx5, s.out, si.out]; rfl)), hBw6⟩
    | true =>
     have si := Shut.mk hi
     go_wp2_with fail
     go_ret
     exact ⟨retB (by rw [← hneed]; exact (show (false : Bool) = r5 by rw [← hr5, sp.out, ← hx5, s.out, si.out]; rfl)), hBw6⟩

section
variable {k p n y : Int} {h : Hd} {id : Int} {dn cn : Nat}
theorem own_kind (a : ¬ (1 ≤ k ∧ k ≤ 8)) : ownCode k p n y h id dn cn = 4 := if_pos a
theorem own_need (a : 1 ≤ k ∧ k ≤ 8) (b : needless k p n y h id dn cn = true) : ownCode k p n y h id dn cn = 4 := by rw [ownCode, if_neg (fun e => e a), if_pos b]
theorem own_range (a : 1 ≤ k ∧ k ≤ 8) (b : needless k p n y h id dn cn = false) (c : ¬ ((0 ≤ p ∧ p ≤ 3) ∧ (0 ≤ y ∧ y ≤ 9999) ∧ (0 ≤ n ∧ n ≤ 1000000))) : ownCode k p n y h id dn cn = 3 := by rw [ownCode, if_neg (fun e => e a), if_neg (by rw [b]; simp), if_pos c]
theorem own_tick (a : 1 ≤ k ∧ k ≤ 8) (b : needless k p n y h id dn cn = false) (c : (0 ≤ p ∧ p ≤ 3) ∧ (0 ≤ y ∧ y ≤ 9999) ∧ (0 ≤ n ∧ n ≤ 1000000)) (d : k = 8) : ownCode k p n y h id dn cn = 0 := by rw [ownCode, if_neg (fun e => e a), if_neg (by rw [b]; simp), if_neg (fun e => e c), if_pos d]
theorem own_head (a : 1 ≤ k ∧ k ≤ 8) (b : needless k p n y h id dn cn = false) (c : (0 ≤ p ∧ p ≤ 3) ∧ (0 ≤ y ∧ y ≤ 9999) ∧ (0 ≤ n ∧ n ≤ 1000000)) (d : ¬ k = 8) (e : hdCode h ≠ 0) : ownCode k p n y h id dn cn = hdCode h := by rw [ownCode, if_neg (fun e => e a), if_neg (by rw [b]; simp), if_neg (fun e => e c), if_neg d, if_pos e]
theorem own_keep (a : 1 ≤ k ∧ k ≤ 8) (b : needless k p n y h id dn cn = false) (c : (0 ≤ p ∧ p ≤ 3) ∧ (0 ≤ y ∧ y ≤ 9999) ∧ (0 ≤ n ∧ n ≤ 1000000)) (d : ¬ k = 8) (e : hdCode h = 0) (f : k = 2) : ownCode k p n y h id dn cn = chkS h.B h.K id dn := by rw [ownCode, if_neg (fun e => e a), if_neg (by rw [b]; simp), if_neg (fun e => e c), if_neg d, if_neg (fun g => g e), if_pos f]
theorem own_form (a : 1 ≤ k ∧ k ≤ 8) (b : needless k p n y h id dn cn = false) (c : (0 ≤ p ∧ p ≤ 3) ∧ (0 ≤ y ∧ y ≤ 9999) ∧ (0 ≤ n ∧ n ≤ 1000000)) (d : ¬ k = 8) (e : hdCode h = 0) (f : ¬ k = 2) (g : (k = 1 ∨ k = 3) ∧ (cn : Int) ≠ h.B) : ownCode k p n y h id dn cn = 4 := by rw [ownCode, if_neg (fun e => e a), if_neg (by rw [b]; simp), if_neg (fun e => e c), if_neg d, if_neg (fun g => g e), if_neg f, if_pos g]
theorem own_ok (a : 1 ≤ k ∧ k ≤ 8) (b : needless k p n y h id dn cn = false) (c : (0 ≤ p ∧ p ≤ 3) ∧ (0 ≤ y ∧ y ≤ 9999) ∧ (0 ≤ n ∧ n ≤ 1000000)) (d : ¬ k = 8) (e : hdCode h = 0) (f : ¬ k = 2) (g : ¬ ((k = 1 ∨ k = 3) ∧ (cn : Int) ≠ h.B)) : ownCode k p n y h id dn cn = 0 := by rw [ownCode, if_neg (fun e => e a), if_neg (by rw [b]; simp), if_neg (fun e => e c), if_neg d, if_neg (fun g => g e), if_neg f, if_neg g]
end

theorem dec_t {p : Prop} [Decidable p] (h : Shut p) : decide p = true := decide_eq_true h.out
theorem dec_f {p : Prop} [Decidable p] (h : Shut (¬ p)) : decide p = false := decide_eq_false h.out

set_option maxHeartbeats 2000000 in
set_option maxRecDepth 8000 in
theorem ownCheck_any (k p n y : Int) (h : Hd) (id : Int) (da : Option Addr) (dn dc : Nat) (ca : Option Addr) (cn cc : Nat) (w : World) (ho : h.ok) (hdn : dn ≤ maxLen) :
  Calls Tryz.prog 34 #[.agg #[.int .i64 k, .int .i64 p, .int .i64 n, .int .i64 y, .int .i64 h.F, .int .i64 h.Q, .int .i64 h.T, .int .i64 h.L, .int .i64 h.B, .int .i64 h.K, .int .i64 id, .slice da dn dc, .slice ca cn cc]] w fun e w' => e = .returned (.int .i64 (ownCode k p n y h id dn cn)) ∧ Below w.heap.size w w' := by
 obtain ⟨W, hW⟩ : ∃ W, w.alloc (.cells #[.int .i64 k, .int .i64 p, .int .i64 n, .int .i64 y, .int .i64 h.F, .int .i64 h.Q, .int .i64 h.T, .int .i64 h.L, .int .i64 h.B, .int .i64 h.K, .int .i64 id, .slice da dn dc, .slice ca cn cc] 40) = W := ⟨_, rfl⟩
 have hBW : Below w.heap.size w W := by rw [← hW]; exact (Below.refl _ _).alloc (Nat.le_refl _) _
 have hbW : W.heap[w.heap.size]? = some (.cells #[.int .i64 k, .int .i64 p, .int .i64 n, .int .i64 y, .int .i64 h.F, .int .i64 h.Q, .int .i64 h.T, .int .i64 h.L, .int .i64 h.B, .int .i64 h.K, .int .i64 id, .slice da dn dc, .slice ca cn cc] 40 (0, 0)) := by rw [← hW, heap_alloc_eq, if_pos rfl]
 have hNd := hasNeedless_any k p n y h id da dn dc ca cn cc W
 have hHd := head_any h
 have oB := ho.2.2.2.2.1
 have oK := ho.2.2.2.2.2
 obtain ⟨F, Q, T, L, B, K⟩ := h
 simp only [Hd.val] at *
 generalize hh : (⟨F, Q, T, L, B, K⟩ : Hd) = h at *
 have hB' : h.B = B := by rw [← hh]
 have hK' : h.K = K := by rw [← hh]
 clear hh
 have sB := Shut.mk hB'
 have sK := Shut.mk hK'
 clear hB' hK'
 obtain ⟨q0, q1, q2, q3, q4, q5, q6, q7, q8, q9, q10, q11, q12⟩ := bx13 hbW
 by_cases hk : 1 ≤ k ∧ k ≤ 8
 ·have sk := Shut.mk hk
  clear hk
  cases hN : needless k p n y h id dn cn with
  | true =>
   rw [hN] at hNd
   have sN := Shut.mk hN
   clear hN
   go_enter Tryz.func34, Tryz.ntmps34
   go_wp2_with fail
   refine (within_any k 1 8 _).mono ?_
   rintro e _ ⟨rfl, rfl⟩
   rw [dec_t sk]
   go_wp2_with fail
   refine hNd.mono ?_
   rintro e W1 ⟨rfl, hb1⟩
   have hF := hBW.trans (hb1.mono hBW.size)
   clear hNd hb1
   go_wp2
   go_ret
   exact ⟨ret_int (own_need sk.out sN.out).symm, hF⟩
  | false =>
   rw [hN] at hNd
   have sN := Shut.mk hN
   clear hN
   go_enter Tryz.func34, Tryz.ntmps34
   go_wp2_with fail
   refine (within_any k 1 8 _).mono ?_
   rintro e _ ⟨rfl, rfl⟩
   rw [dec_t sk]
   go_wp2_with fail
   refine hNd.mono ?_
   rintro e W1 ⟨rfl, hb1⟩
   have hF := hBW.trans (hb1.mono hBW.size)
   have hbk := blkB hbW hb1
   have c0 : W1.cell? ⟨w.heap.size, 0, none⟩ = some (.int .i64 k) := cellB hbk 0 _ rfl
   have c1 : W1.cell? ⟨w.heap.size, 1, none⟩ = some (.int .i64 p) := cellB hbk 1 _ rfl
   have c2 : W1.cell? ⟨w.heap.size, 2, none⟩ = some (.int .i64 n) := cellB hbk 2 _ rfl
   have c3 : W1.cell? ⟨w.heap.size, 3, none⟩ = some (.int .i64 y) := cellB hbk 3 _ rfl
   have c4 : W1.cell? ⟨w.heap.size, 4, none⟩ = some (.int .i64 F) := cellB hbk 4 _ rfl
   have c5 : W1.cell? ⟨w.heap.size, 5, none⟩ = some (.int .i64 Q) := cellB hbk 5 _ rfl
   have c6 : W1.cell? ⟨w.heap.size, 6, none⟩ = some (.int .i64 T) := cellB hbk 6 _ rfl
   have c7 : W1.cell? ⟨w.heap.size, 7, none⟩ = some (.int .i64 L) := cellB hbk 7 _ rfl
   have c8 : W1.cell? ⟨w.heap.size, 8, none⟩ = some (.int .i64 B) := cellB hbk 8 _ rfl
   have c9 : W1.cell? ⟨w.heap.size, 9, none⟩ = some (.int .i64 K) := cellB hbk 9 _ rfl
   clear hNd hb1 hbW hBW hW q0 q1 q2 q3 q4 q5 q6 q7 q8 q9 q10 q11 q12
   go_wp2_with fail
   refine (within_any p 0 3 _).mono ?_
   rintro e _ ⟨rfl, rfl⟩
   by_cases hp : 0 ≤ p ∧ p ≤ 3
   case neg =>
    have sp := Shut.mk hp
    clear hp
    rw [dec_f sp]
    go_wp2
    go_ret
    exact ⟨ret_int (own_range sk.out sN.out (fun e => sp.out e.1)).symm, hF⟩
   have sp := Shut.mk hp
   clear hp
   rw [dec_t sp]
   go_wp2_with fail
   refine (within_any y 0 9999 _).mono ?_
   rintro e _ ⟨rfl, rfl⟩
   by_cases hy : 0 ≤ y ∧ y ≤ 9999
   case neg =>
    have sy := Shut.mk hy
    clear hy
    rw [dec_f sy]
    go_wp2
    go_ret
    exact ⟨ret_int (own_range sk.out sN.out (fun e => sy.out e.2.1)).symm, hF⟩
   have sy := Shut.mk hy
   clear hy
   rw [dec_t sy]
   go_wp2_with fail
   refine (within_any n 0 1000000 _).mono ?_
   rintro e _ ⟨rfl, rfl⟩
   by_cases hn : 0 ≤ n ∧ n ≤ 1000000
   case neg =>
    have sn := Shut.mk hn
    clear hn
    rw [dec_f sn]
    go_wp2
    go_ret
    exact ⟨ret_int (own_range sk.out sN.out (fun e => sn.out e.2.2)).symm, hF⟩
   have sn := Shut.mk hn
   clear hn
   rw [dec_t sn]
   have sR : Shut ((0 ≤ p ∧ p ≤ 3) ∧ (0 ≤ y ∧ y ≤ 9999) ∧ (0 ≤ n ∧ n ≤ 1000000)) := ⟨sp.out, sy.out, sn.out⟩
   cases b8 : (k == 8) with
   | true =>
    have s8 : Shut (k = 8) := ⟨by simpa using b8⟩
    go_wp2
    go_ret
    exact ⟨ret_int (own_tick sk.out sN.out sR.out s8.out).symm, hF⟩
   | false =>
    have s8 : Shut (¬ k = 8) := ⟨by simpa using b8⟩
    go_wp2_with fail
    refine (hHd W1 ho).mono ?_
    rintro e W2 ⟨rfl, hb2⟩
    replace hF := hF.trans (hb2.mono hF.size)
    replace hbk := blkB hbk hb2
    clear c0 c1 c2 c3 c4 c5 c6 c7 c8 c9
    have c0 : W2.cell? ⟨w.heap.size, 0, none⟩ = some (.int .i64 k) := cellB hbk 0 _ rfl
    have c8 : W2.cell? ⟨w.heap.size, 8, none⟩ = some (.int .i64 B) := cellB hbk 8 _ rfl
    have c9 : W2.cell? ⟨w.heap.size, 9, none⟩ = some (.int .i64 K) := cellB hbk 9 _ rfl
    have c10 : W2.cell? ⟨w.heap.size, 10, none⟩ = some (.int .i64 id) := cellB hbk 10 _ rfl
    have c11 : W2.cell? ⟨w.heap.size, 11, none⟩ = some (.slice da dn dc) := cellB hbk 11 _ rfl
    have c12 : W2.cell? ⟨w.heap.size, 12, none⟩ = some (.slice ca cn cc) := cellB hbk 12 _ rfl
    clear hb2
    cases bh : (hdCode h != 0) with
    | true =>
     have sh : Shut (hdCode h ≠ 0) := ⟨by simpa using bh⟩
     have HC := Shut.mk (own_head sk.out sN.out sR.out s8.out sh.out)
     generalize hdCode h = hc at bh HC ⊢
     go_wp2
     go_ret
     exact ⟨ret_int HC.out.symm, hF⟩
    | false =>
     have sh : Shut (hdCode h = 0) := ⟨by simpa using bh⟩
     rw [sh.out]
     clear bh
     cases b2 : (k == 2) with
     | true =>
      have s2 : Shut (k = 2) := ⟨by simpa using b2⟩
      have hS := codeCheck_any B K id da dn dc W2 oB oK hdn
      have HC : Shut (ownCode k p n y h id dn cn = chkS B K id dn) := ⟨by rw [← sB.out, ← sK.out]; exact own_keep sk.out sN.out sR.out s8.out sh.out s2.out⟩
      generalize chkS B K id dn = cs at hS HC
      go_wp2_with fail
      refine hS.mono ?_
      rintro e W3 ⟨rfl, hb3⟩
      replace hF := hF.trans (hb3.mono hF.size)
      clear hS hb3
      go_wp2
      go_ret
      exact ⟨ret_int HC.out.symm, hF⟩
     | false =>
      have s2 : Shut (¬ k = 2) := ⟨by simpa using b2⟩
      cases b1 : (k == 1) with
      | true =>
       have s1 : Shut (k = 1) := ⟨by simpa using b1⟩
       cases bc : ((cn : Int) != B) with
       | true =>
        have sc : Shut ((cn : Int) ≠ B) := ⟨by simpa using bc⟩
        go_wp2
        go_ret
        exact ⟨ret_int (own_form sk.out sN.out sR.out s8.out sh.out s2.out ⟨Or.inl s1.out, by rw [sB.out]; exact sc.out⟩).symm, hF⟩
       | false =>
        have sc : Shut ((cn : Int) = B) := ⟨by simpa using bc⟩
        go_wp2
        go_ret
        exact ⟨ret_int (own_ok sk.out sN.out sR.out s8.out sh.out s2.out (fun e => e.2 (by rw [sB.out]; exact sc.out))).symm, hF⟩
      | false =>
       have s1 : Shut (¬ k = 1) := ⟨by simpa using b1⟩
       cases b3 : (k == 3) with
       | true =>
        have s3 : Shut (k = 3) := ⟨by simpa using b3⟩
        cases bc : ((cn : Int) != B) with
        | true =>
         have sc : Shut ((cn : Int) ≠ B) := ⟨by simpa using bc⟩
         go_wp2
         go_ret
         exact ⟨ret_int (own_form sk.out sN.out sR.out s8.out sh.out s2.out ⟨Or.inr s3.out, by rw [sB.out]; exact sc.out⟩).symm, hF⟩
        | false =>
         have sc : Shut ((cn : Int) = B) := ⟨by simpa using bc⟩
         go_wp2
         go_ret
         exact ⟨ret_int (own_ok sk.out sN.out sR.out s8.out sh.out s2.out (fun e => e.2 (by rw [sB.out]; exact sc.out))).symm, hF⟩
       | false =>
        have s3 : Shut (¬ k = 3) := ⟨by simpa using b3⟩
        go_wp2
        go_ret
        exact ⟨ret_int (own_ok sk.out sN.out sR.out s8.out sh.out s2.out (fun e => e.1.elim s1.out s3.out)).symm, hF⟩
 ·have sk := Shut.mk hk
  clear hk
  go_enter Tryz.func34, Tryz.ntmps34
  go_wp2_with fail
  refine (within_any k 1 8 _).mono ?_
  rintro e _ ⟨rfl, rfl⟩
  rw [dec_f sk]
  go_wp2
  go_ret
  exact ⟨ret_int (own_kind sk.out).symm, hBW⟩

theorem noteCheck_any (r : Rc) (da : Option Addr) (dc : Nat) (ca : Option Addr) (cc : Nat) (w : World) (hi : r.ints) (hd : r.d.length ≤ maxLen) :
  Calls Tryz.prog 34 #[rcV r da dc ca cc] w fun e w' => e = .returned (.int .i64 r.code) ∧ Below w.heap.size w w' := by
 have := ownCheck_any r.k r.p r.n r.y r.h r.id da r.d.length dc ca r.c.length cc w hi.2.2.2.2.1 hd
 rw [ownCode_rec] at this
 exact this

end Go.Proofs.YtakkajjoeimkdaaGreatDoor
