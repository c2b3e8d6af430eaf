/-
  Chapter 9: keep's send.
-/
import Derived.Test.YtpmgmddicbpgjaaDoorPart26
import Derived.Deep.RegionHeld3
import Derived.BigRegion
namespace Go.Proofs.YtpmgmddicbpgjaaDoor
open Go.RowKit
set_option linter.unusedVariables false
set_option linter.unusedSimpArgs false
attribute [local go_sem ↓] Go.wp_at_zero Go.wp_at_succ

theorem setK4d (W : World) (g : Nat) (T : TypeId) (a b c d v : Value) (h : W.heap[g]? = some (.cells #[a, b, c, d] T (0, 0))) :
    ∃ W', W.setCell ⟨g, 3, none⟩ v = W' ∧ W'.heap[g]? = some (.cells #[a, b, c, v] T (0, 0)) ∧ (∀ k, k ≠ g → W'.heap[k]? = W.heap[k]?) ∧ ∀ B w, B ≤ g → Below B w W → Below B w W' := by
  refine ⟨_, rfl, ?_, fun k hk => setCell_far _ _ hk, fun B w hB hb => hb.setCell (p := ⟨g, 3, none⟩) hB _⟩
  have := setCell_blk (v := v) h 3
  simpa using this

/-- what a change of a place leaves: where nothing is wrong the place as told -/
def DoR (B gp : Nat) (w : World) (z : Int) (P : Pl) (w' : World) : Prop := Below B w w' ∧ (z = 0 → ∃ (L : List MKp) (p : Option Addr) (cp : Nat), PlAt w' B gp P.me P.tm P.sq P.kp L p cp)

set_option maxHeartbeats 8000000 in
set_option maxRecDepth 8000 in
theorem send_any (B gp : Nat) (P : Pl) (L : List MKp) (p : Option Addr) (cp : Nat) (r : Rc) (da : Option Addr) (dc : Nat) (ca : Option Addr) (cc : Nat) (w : World) (hP : PlAt w B gp P.me P.tm P.sq P.kp L p cp) (hca : Lies w ca (bs r.c)) (hc : r.c.length ≤ 65536) (hsq : 0 ≤ P.sq ∧ P.sq ≤ 1000) :
    Calls Tryd.prog 26 #[.pointer (some ⟨gp, 0, none⟩), rcV r da dc ca cc] w fun e w' => e = .returned (.int .i64 (P.send r).1) ∧ Shut (DoR B gp w (P.send r).1 (P.send r).2 w') := by
  obtain ⟨me, l, tm, sq⟩ := P
  simp only at hP hsq
  obtain ⟨n, hnl⟩ : ∃ n, l.length = n := ⟨_, rfl⟩
  have hBw : B ≤ w.heap.size := by have := hP.lo; have := hP.lt; omega
  obtain ⟨W, hW⟩ : ∃ W, w.alloc (.cells #[.int .i64 r.k, .int .i64 r.p, .int .i64 r.n, .int .i64 r.y, .int .i64 r.h.F, .int .i64 r.h.Q, .int .i64 r.h.T, .int .i64 r.h.L, .int .i64 r.h.B, .int .i64 r.h.K, .int .i64 r.id, .slice da r.d.length dc, .slice ca r.c.length cc] 40) = W := ⟨_, rfl⟩
  have hb : Below w.heap.size w W := by rw [← hW]; exact (Below.refl _ _).alloc (Nat.le_refl _) _
  have hk : W.heap[w.heap.size]? = some (.cells #[.int .i64 r.k, .int .i64 r.p, .int .i64 r.n, .int .i64 r.y, .int .i64 r.h.F, .int .i64 r.h.Q, .int .i64 r.h.T, .int .i64 r.h.L, .int .i64 r.h.B, .int .i64 r.h.K, .int .i64 r.id, .slice da r.d.length dc, .slice ca r.c.length cc] 40 (0, 0)) := by rw [← hW, heap_alloc_eq, if_pos rfl]
  have hPW := hP.below hb
  have hw1 : IntKind.i64.wrap (sq + 1) = sq + 1 := by rw [IntKind.wrap_i64]; omega
  obtain ⟨b0, b1, b2, b3⟩ := plBox hPW.box
  rw [hnl] at b1
  obtain ⟨a0, a1, a2, a3, a4, a5, a6, a7, a8, a9, a10, a11, a12⟩ := rcBox hk
  have HW := Shut.mk hW
  have HN := Shut.mk hnl
  have H := Shut.mk (And.intro hPW (And.intro hk (And.intro hb (And.intro hBw (And.intro hca (And.intro hc hP))))))
  have bad : ∀ (z : Int) (P' : Pl) (u : World), z ≠ 0 → Below w.heap.size w u → Shut (DoR B gp w z P' u) := fun z P' u hz hu => ⟨hu.mono H.out.2.2.2.1, fun e => absurd e hz⟩
  clear hW hk hP hPW hBw hca hc hsq hnl
  have hbW := hb
  clear hb
  unfold rcV
  go_enter Tryd.func26, Tryd.ntmps26
  go_upto_region 1 with fail
  rw [HW.out]
  clear HW
  rcases eqDec r.h.F me with ⟨y1, y2, y3, y4⟩ | ⟨y1, y2, y3, y4⟩
  case inr =>
    have HR := Shut.mk (show (Pl.send ⟨me, l, tm, sq⟩ r) = (5, ⟨me, l, tm, sq⟩) from by unfold Pl.send; rw [if_pos y1])
    clear y1
    go_region
    all_goals
      go_wp2
      go_ret
      rw [HR.out]
      exact ⟨rfl, bad _ _ _ (by show (5 : Int) ≠ 0; decide) hbW.drew⟩
  case inl =>
    have HP1 := Shut.mk y1
    clear y1
    go_region
    all_goals go_upto_region 3 with fail
    by_cases p2 : r.h.Q ≠ sq ∨ r.h.L ≤ tm
    · have HR := Shut.mk (show (Pl.send ⟨me, l, tm, sq⟩ r) = (7, ⟨me, l, tm, sq⟩) from by unfold Pl.send; rw [if_neg (fun e => e HP1.out), if_pos p2])
      rcases eqDec r.h.Q sq with ⟨q1, q2, q3, q4⟩ | ⟨q1, q2, q3, q4⟩
      · have l1 : r.h.L ≤ tm := p2.resolve_left (fun e => e q1)
        clear p2 q1
        go_region
        all_goals
          go_wp2
          go_ret
          rw [HR.out]
          exact ⟨rfl, bad _ _ _ (by show (7 : Int) ≠ 0; decide) hbW.drew.drew⟩
      · clear p2 q1
        go_region
        all_goals
          go_wp2
          go_ret
          rw [HR.out]
          exact ⟨rfl, bad _ _ _ (by show (7 : Int) ≠ 0; decide) hbW.drew.drew⟩
    · have HP2 := Shut.mk p2
      have q1 : r.h.Q = sq := by omega
      have q2 : (r.h.Q == sq) = true := by simpa using q1
      have q3 : (r.h.Q != sq) = false := by simpa using q1
      have l1 : ¬ r.h.L ≤ tm := by omega
      clear p2 q1
      go_region
      all_goals go_upto_region 5 with fail
      have hWi := kwithin_any r.n 1 64 W.drew.drew
      clear q2 q3 l1 y2 y3 y4
      go_wp2_with fail
      refine hWi.mono ?_
      rintro e w2 ⟨rfl, rfl⟩
      clear hWi
      by_cases p3 : 1 ≤ r.n ∧ r.n ≤ 64
      case neg =>
        have HR := Shut.mk (show (Pl.send ⟨me, l, tm, sq⟩ r) = (3, ⟨me, l, tm, sq⟩) from by unfold Pl.send; rw [if_neg (fun e => e HP1.out), if_neg HP2.out, if_pos p3])
        rw [decide_eq_false p3]
        clear p3
        go_wp2
        go_ret
        rw [HR.out]
        exact ⟨rfl, bad _ _ _ (by show (3 : Int) ≠ 0; decide) hbW.drew.drew⟩
      case pos =>
        rw [decide_eq_true p3]
        by_cases p4 : 12 ≤ n
        case pos =>
          have HR := Shut.mk (show (Pl.send ⟨me, l, tm, sq⟩ r) = (2, ⟨me, l, tm, sq⟩) from by unfold Pl.send; rw [if_neg (fun e => e HP1.out), if_neg HP2.out, if_neg (fun e => e p3), if_pos (by show 12 ≤ l.length; rw [HN.out]; exact p4)])
          clear p3
          have l5 : (12 : Int) ≤ (n : Int) := by omega
          go_wp2
          go_ret
          rw [HR.out]
          exact ⟨rfl, bad _ _ _ (by show (2 : Int) ≠ 0; decide) hbW.drew.drew⟩
        case neg =>
          have HR := Shut.mk (show (Pl.send ⟨me, l, tm, sq⟩ r) = (0, ⟨me, insK l (placeOf l r.h) { kp0 r.h with own := true, c := r.c, sh := r.n }, tm, sq + 1⟩) from by unfold Pl.send; rw [if_neg (fun e => e HP1.out), if_neg HP2.out, if_neg (fun e => e p3), if_neg (by show ¬ 12 ≤ l.length; rw [HN.out]; exact p4)])
          clear p3
          have l5 : ¬ (12 : Int) ≤ (n : Int) := by omega
          go_upto_region 9 with fail
          have hPW := H.out.1
          have hlW := hPW.lt
          have hCl : ∀ v : World, Below W.heap.size W v → Calls Tryd.prog 44 #[.slice ca r.c.length cc] v fun e w' => ∃ (q : Option Addr) (c' : Nat), e = .returned (.slice q r.c.length c') ∧ Shut (r.c.length ≤ c' ∧ Lies w' q (bs r.c) ∧ ∀ b o, q = some ⟨b, o, none⟩ → W.heap.size ≤ b) ∧ Below W.heap.size W w' := fun v hv => by
            refine (cloneB ca r.c.length cc (bs r.c) v (by rw [bs_length]; omega) (bs_oneK _) H.out.2.2.2.2.2.1 ((H.out.2.2.2.2.1.below H.out.2.2.1 (Nat.le_refl _)).below hv (Nat.le_refl _))).mono ?_
            rintro e w' ⟨q, c', rfl, HH⟩
            exact ⟨q, c', rfl, ⟨HH.out.2.1, HH.out.2.2.1, fun b o e => Nat.le_trans hv.size (HH.out.1.lt b (by rw [e]; rfl)).1⟩, hv.trans (HH.out.2.2.2.mono hv.size)⟩
          have hIn : ∀ (v : World) (q : Option Addr) (c' : Nat), Below W.heap.size W v → Shut (r.c.length ≤ c' ∧ Lies v q (bs r.c) ∧ ∀ b o, q = some ⟨b, o, none⟩ → W.heap.size ≤ b) → Calls Tryd.prog 48 #[.pointer (some ⟨gp, 0, none⟩), .agg #[.int .i64 r.h.F, .int .i64 r.h.Q, .int .i64 r.h.T, .int .i64 r.h.L, .int .i64 r.h.B, .int .i64 r.h.K, .bool true, .slice q r.c.length c', .slice none 0 0, .int .i64 r.n, .int .i64 0, .int .i64 0, .int .i64 0, .slice none 0 0, .bool false, .bool false]] v fun e w' => ∃ a : Option Addr, e = .returned (.pointer a) ∧ Shut (∃ (L' : List MKp) (p' : Option Addr) (cp' : Nat), PlAt w' B gp me tm sq (insK l (placeOf l r.h) { kp0 r.h with own := true, c := r.c, sh := r.n }) L' p' cp' ∧ Below B w w') ∧ w'.heap[w.heap.size]? = some (.cells #[.int .i64 r.k, .int .i64 r.p, .int .i64 r.n, .int .i64 r.y, .int .i64 r.h.F, .int .i64 r.h.Q, .int .i64 r.h.T, .int .i64 r.h.L, .int .i64 r.h.B, .int .i64 r.h.K, .int .i64 r.id, .slice da r.d.length dc, .slice ca r.c.length cc] 40 (0, 0)) := fun v q c' hv hq => by
            have hPv := hPW.below hv
            have hBW : B ≤ W.heap.size := by have := hPW.lo; omega
            have hfar : ∀ b, b < W.heap.size → FarM b (MKp.mk { kp0 r.h with own := true, c := r.c, sh := r.n } q c' none 0 [] none 0) := fun b hb => ⟨fun _ a o e => by have := hq.out.2.2 a o e; omega, fun e => absurd rfl e, fun y hy => (by cases hy), fun e => absurd rfl e⟩
            have hnx : NewM v B (MKp.mk { kp0 r.h with own := true, c := r.c, sh := r.n } q c' none 0 [] none 0) := ⟨⟨hq.out.2.1, Lies.nil _ _, fun y hy => (by cases hy), rfl, Lies.nil _ _⟩, ⟨by have := H.out.2.2.2.2.2.1; show r.c.length ≤ maxLen; unfold maxLen; omega, Nat.zero_le _, Nat.zero_le _, hq.out.1, Nat.zero_le _, Nat.zero_le _⟩, fun b o e => Nat.le_trans hBW (hq.out.2.2 b o e), fun b o e => (by cases e), fun b o e => (by cases e), fun y hy => (by cases hy), ⟨World.ownsRow_nil _ _ _ _, World.ownsRow_nil _ _ _ _⟩, ⟨fun b o b' o' e => (by cases e), fun _ b o b' o' e => (by cases e), fun _ b o b' o' e => (by cases e), fun y hy => (by cases hy), fun y hy => (by cases hy)⟩⟩
            have hi := insertPl_any B gp me tm sq l L p cp (MKp.mk { kp0 r.h with own := true, c := r.c, sh := r.n } q c' none 0 [] none 0) v hPv (by rw [HN.out]; omega) hnx (fun b e => by rcases e with ⟨o, e⟩ | ⟨o, e⟩ <;> cases e) (fun b hb => hfar b (by
              rcases hb with rfl | ⟨o, hb⟩ | ⟨m, hm, hb⟩
              · exact hlW
              · exact (hPW.pl.own.lt b (by rw [hb]; rfl)).2
              · exact ((hPW.pl.new m hm).1.grow_lt hb).2))
            refine hi.mono ?_
            rintro e w' ⟨g', c2, rfl, HH⟩
            have hbv : Below B w v := (H.out.2.2.1.mono H.out.2.2.2.1).trans (hv.mono (by omega))
            refine ⟨_, rfl, ⟨_, _, _, HH.out.1, hbv.trans HH.out.2.1⟩, ?_⟩
            have hkW := (Array.getElem?_eq_some_iff.1 H.out.2.1).1
            rw [HH.out.2.2 w.heap.size (by have := hv.size; omega) (by have := H.out.2.2.2.2.2.2.lt; omega) (fun o e => by have := (H.out.2.2.2.2.2.2.pl.own.lt w.heap.size (by rw [e]; rfl)).2; omega), hv.block _ hkW]
            exact H.out.2.1
          have HCl := Shut.mk hCl
          have HIn := Shut.mk hIn
          clear hCl hIn a0 a1 a2 a3 a4 a5 a6 a7 a8 a9 a10 a11 a12 b0 b1 b2 b3 l5
          obtain ⟨a0, a1, a2, a3, a4, a5, a6, a7, a8, a9, a10, a11, a12⟩ := rcBox (show W.drew.drew.drew.heap[w.heap.size]? = _ from H.out.2.1)
          go_region_held3 (fun w' => w'.cell? ⟨w.heap.size, 0, none⟩ = some (.int .i64 r.k) ∧ w'.cell? ⟨w.heap.size, 1, none⟩ = some (.int .i64 r.p) ∧ w'.cell? ⟨w.heap.size, 2, none⟩ = some (.int .i64 r.n) ∧ w'.cell? ⟨w.heap.size, 3, none⟩ = some (.int .i64 r.y) ∧ w'.cell? ⟨w.heap.size, 4, none⟩ = some (.int .i64 r.h.F) ∧ w'.cell? ⟨w.heap.size, 5, none⟩ = some (.int .i64 r.h.Q) ∧ w'.cell? ⟨w.heap.size, 6, none⟩ = some (.int .i64 r.h.T) ∧ w'.cell? ⟨w.heap.size, 7, none⟩ = some (.int .i64 r.h.L) ∧ w'.cell? ⟨w.heap.size, 8, none⟩ = some (.int .i64 r.h.B) ∧ w'.cell? ⟨w.heap.size, 9, none⟩ = some (.int .i64 r.h.K) ∧ w'.cell? ⟨w.heap.size, 10, none⟩ = some (.int .i64 r.id) ∧ w'.cell? ⟨w.heap.size, 11, none⟩ = some (.slice da r.d.length dc) ∧ w'.cell? ⟨w.heap.size, 12, none⟩ = some (.slice ca r.c.length cc)) (exact ⟨by with_reducible assumption, by with_reducible assumption, by with_reducible assumption, by with_reducible assumption, by with_reducible assumption, by with_reducible assumption, by with_reducible assumption, by with_reducible assumption, by with_reducible assumption, by with_reducible assumption, by with_reducible assumption, by with_reducible assumption, by with_reducible assumption⟩) ((first | (have hc0 := hcl; go_at_call 48; refine (HIn.out _ q c' hc0 hcq).mono ?_; rintro e w5 ⟨av, rfl, hL5, hk5⟩; obtain ⟨a0, a1, a2, a3, a4, a5, a6, a7, a8, a9, a10, a11, a12⟩ := rcBox hk5) | (go_at_call 44; refine (HCl.out _ ((Below.refl _ W).drew.drew.drew)).mono ?_; rintro e wk ⟨q, c', rfl, hcq, hcl⟩; obtain ⟨a0, a1, a2, a3, a4, a5, a6, a7, a8, a9, a10, a11, a12⟩ := rcBox (blkB H.out.2.1 hcl))))
          all_goals
            obtain ⟨L', p', cp', hP5, hB5⟩ := hL5.out
            have h5 := hP5.box
            clear a0 a1 a2 a3 a4 a5 a6 a7 a8 a9 a10 a11 a12 hL5 hk5 hcq hcl HCl HIn hPW hlW
            obtain ⟨b0, b1, b2, b3⟩ := plBox h5
            have f3 := frzB h5 3
            go_upto_region 11 with fail
            obtain ⟨V, hV, hbV, hoV, hBV⟩ := setK4d w5 gp 25 _ _ _ _ (.int .i64 (sq + 1)) h5
            have R : Shut (DoR B gp w 0 ⟨me, insK l (placeOf l r.h) { kp0 r.h with own := true, c := r.c, sh := r.n }, tm, sq + 1⟩ V) := ⟨hBV B w hP5.lo hB5, fun _ => ⟨L', p', cp', hP5.box' hbV hoV⟩⟩
            rw [hV]
            clear hV hbV hoV hBV b0 b1 b2 b3 f3 h5 hP5
            go_wp2
            go_ret
            rw [HR.out]
            exact ⟨rfl, R⟩

end Go.Proofs.YtpmgmddicbpgjaaDoor
