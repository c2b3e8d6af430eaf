import Derived.Test.YtippbfbdghfnaaaDoorPart7
import Derived.Test.YtippbfbdghfnaaaDoorPart14
import Derived.Test.YtippbfbdghfnaaaDoorPart3
import Derived.Test.YtippbfbdghfnaaaDoorPart12
/-
  Chapter 7: records held against each other: note.Same and the reference's SameRec.
-/
namespace Go.Proofs.YtippbfbdghfnaaaDoor
open Go.RowKit
set_option linter.unusedVariables false
set_option linter.unusedSimpArgs false

theorem bytesIn_lies {w : World} {a : Option Addr} {l : List UInt8} (h : Lies w a (bs l)) : Lib.BytesIn w a l.length (l.map fun x => (x.toNat : Int)) := by
  intro hn
  obtain ⟨b, off, e, _⟩ := h 0 _ (bs_get l 0 hn)
  refine ⟨b, off, e, fun i hi => ?_⟩
  have h1 := h.lt e i (by rw [bs_length]; exact hi)
  rw [h1]
  simp [bs, hi]

theorem bytesOf_nats (l : List UInt8) : Lib.bytesOf (l.map fun x => (x.toNat : Int)) = l := by
  unfold Lib.bytesOf
  rw [List.map_map]
  conv => rhs; rw [← List.map_id l]
  refine List.map_congr_left fun x _ => ?_
  simp

theorem bytesEqual_any {w : World} (a b : Option Addr) (ca cb : Nat) (xs ys : List UInt8) (ha : Lies w a (bs xs)) (hb : Lies w b (bs ys)) :
    Calls Tryd.prog 40 #[.slice a xs.length ca, .slice b ys.length cb] w fun e w' => e = .returned (.bool (decide (xs = ys))) ∧ w = w' := by
  refine (Tryd.bytes_Equal_all a b xs.length ca ys.length cb _ _ w (by simp) (by simp) (bytesIn_lies ha) (bytesIn_lies hb)).mono ?_
  rintro e w' ⟨rfl, rfl⟩
  rw [bytesOf_nats, bytesOf_nats]
  exact ⟨retB (by rw [Bool.eq_iff_iff]; simp), rfl⟩

theorem rc_eq {a b : Rc} (h1 : a.k = b.k) (h2 : a.p = b.p) (h3 : a.n = b.n) (h4 : a.y = b.y) (h5 : a.h = b.h) (h6 : a.id = b.id) (h7 : a.d = b.d) (h8 : a.c = b.c) : a = b := by
  obtain ⟨k, p, n, y, h, id, d, c⟩ := a
  obtain ⟨k', p', n', y', h', id', d', c'⟩ := b
  simp only at h1 h2 h3 h4 h5 h6 h7 h8
  subst h1 h2 h3 h4 h5 h6 h7 h8
  rfl

set_option maxHeartbeats 4000000 in
set_option maxRecDepth 8000 in
theorem same_any (r q : Rc) (da : Option Addr) (dc : Nat) (ca : Option Addr) (cc : Nat) (da' : Option Addr) (dc' : Nat) (ca' : Option Addr) (cc' : Nat) (w : World) (hd : Lies w da (bs r.d)) (hc : Lies w ca (bs r.c)) (hd' : Lies w da' (bs q.d)) (hc' : Lies w ca' (bs q.c)) (ld : r.d.length ≤ maxLen) (lc : r.c.length ≤ maxLen) (ld' : q.d.length ≤ maxLen) (lc' : q.c.length ≤ maxLen) :
    Calls Tryd.prog 13 #[rcV r da dc ca cc, rcV q da' dc' ca' cc'] w fun e w' => e = .returned (.bool (decide (r = q))) ∧ Below w.heap.size w w' := by
  obtain ⟨N, hN⟩ : ∃ N, decide (r = q) = N := ⟨_, rfl⟩
  rw [hN]
  have sN := Shut.mk hN
  clear hN
  obtain ⟨k, p, n, y, h, id, d, c⟩ := r
  obtain ⟨k', p', n', y', h', id', d', c'⟩ := q
  have hE := eqlHead h h'
  simp only at hd hc hd' hc' ld lc ld' lc'
  simp only [rcV]
  obtain ⟨W, hW⟩ : ∃ W, (w.alloc (.cells #[.int .i64 k, .int .i64 p, .int .i64 n, .int .i64 y, .int .i64 h.F, .int .i64 h.Q, .int .i64 h.T, .int .i64 h.L, .int .i64 h.B, .int .i64 h.K, .int .i64 id, .slice da d.length dc, .slice ca c.length cc] 31)).alloc (.cells #[.int .i64 k', .int .i64 p', .int .i64 n', .int .i64 y', .int .i64 h'.F, .int .i64 h'.Q, .int .i64 h'.T, .int .i64 h'.L, .int .i64 h'.B, .int .i64 h'.K, .int .i64 id', .slice da' d'.length dc', .slice ca' c'.length cc'] 31) = W := ⟨_, rfl⟩
  have hBW : Below w.heap.size w W := by rw [← hW]; exact ((Below.refl _ _).alloc (Nat.le_refl _) _).alloc (by simp) _
  have hb1 : W.heap[w.heap.size]? = some (.cells #[.int .i64 k, .int .i64 p, .int .i64 n, .int .i64 y, .int .i64 h.F, .int .i64 h.Q, .int .i64 h.T, .int .i64 h.L, .int .i64 h.B, .int .i64 h.K, .int .i64 id, .slice da d.length dc, .slice ca c.length cc] 31 (0, 0)) := by rw [← hW, heap_alloc_eq, if_neg (by simp), heap_alloc_eq, if_pos rfl]
  have hb2 : W.heap[w.heap.size + 1]? = some (.cells #[.int .i64 k', .int .i64 p', .int .i64 n', .int .i64 y', .int .i64 h'.F, .int .i64 h'.Q, .int .i64 h'.T, .int .i64 h'.L, .int .i64 h'.B, .int .i64 h'.K, .int .i64 id', .slice da' d'.length dc', .slice ca' c'.length cc'] 31 (0, 0)) := by rw [← hW, heap_alloc_eq, if_pos (by simp)]
  replace hd := Lies.below hBW hd (Nat.le_refl _)
  replace hc := Lies.below hBW hc (Nat.le_refl _)
  replace hd' := Lies.below hBW hd' (Nat.le_refl _)
  replace hc' := Lies.below hBW hc' (Nat.le_refl _)
  have q0 : W.cell? ⟨w.heap.size, 0, none⟩ = some (.int .i64 k) := cellB hb1 0 _ rfl
  have s0 : W.cell? ⟨w.heap.size + 1, 0, none⟩ = some (.int .i64 k') := cellB hb2 0 _ rfl
  have q1 : W.cell? ⟨w.heap.size, 1, none⟩ = some (.int .i64 p) := cellB hb1 1 _ rfl
  have s1 : W.cell? ⟨w.heap.size + 1, 1, none⟩ = some (.int .i64 p') := cellB hb2 1 _ rfl
  have q2 : W.cell? ⟨w.heap.size, 2, none⟩ = some (.int .i64 n) := cellB hb1 2 _ rfl
  have s2 : W.cell? ⟨w.heap.size + 1, 2, none⟩ = some (.int .i64 n') := cellB hb2 2 _ rfl
  have q3 : W.cell? ⟨w.heap.size, 3, none⟩ = some (.int .i64 y) := cellB hb1 3 _ rfl
  have s3 : W.cell? ⟨w.heap.size + 1, 3, none⟩ = some (.int .i64 y') := cellB hb2 3 _ rfl
  have q4 : W.cell? ⟨w.heap.size, 4, none⟩ = some (.int .i64 h.F) := cellB hb1 4 _ rfl
  have s4 : W.cell? ⟨w.heap.size + 1, 4, none⟩ = some (.int .i64 h'.F) := cellB hb2 4 _ rfl
  have q5 : W.cell? ⟨w.heap.size, 5, none⟩ = some (.int .i64 h.Q) := cellB hb1 5 _ rfl
  have s5 : W.cell? ⟨w.heap.size + 1, 5, none⟩ = some (.int .i64 h'.Q) := cellB hb2 5 _ rfl
  have q6 : W.cell? ⟨w.heap.size, 6, none⟩ = some (.int .i64 h.T) := cellB hb1 6 _ rfl
  have s6 : W.cell? ⟨w.heap.size + 1, 6, none⟩ = some (.int .i64 h'.T) := cellB hb2 6 _ rfl
  have q7 : W.cell? ⟨w.heap.size, 7, none⟩ = some (.int .i64 h.L) := cellB hb1 7 _ rfl
  have s7 : W.cell? ⟨w.heap.size + 1, 7, none⟩ = some (.int .i64 h'.L) := cellB hb2 7 _ rfl
  have q8 : W.cell? ⟨w.heap.size, 8, none⟩ = some (.int .i64 h.B) := cellB hb1 8 _ rfl
  have s8 : W.cell? ⟨w.heap.size + 1, 8, none⟩ = some (.int .i64 h'.B) := cellB hb2 8 _ rfl
  have q9 : W.cell? ⟨w.heap.size, 9, none⟩ = some (.int .i64 h.K) := cellB hb1 9 _ rfl
  have s9 : W.cell? ⟨w.heap.size + 1, 9, none⟩ = some (.int .i64 h'.K) := cellB hb2 9 _ rfl
  have q10 : W.cell? ⟨w.heap.size, 10, none⟩ = some (.int .i64 id) := cellB hb1 10 _ rfl
  have s10 : W.cell? ⟨w.heap.size + 1, 10, none⟩ = some (.int .i64 id') := cellB hb2 10 _ rfl
  have q11 : W.cell? ⟨w.heap.size, 11, none⟩ = some (.slice da d.length dc) := cellB hb1 11 _ rfl
  have s11 : W.cell? ⟨w.heap.size + 1, 11, none⟩ = some (.slice da' d'.length dc') := cellB hb2 11 _ rfl
  have q12 : W.cell? ⟨w.heap.size, 12, none⟩ = some (.slice ca c.length cc) := cellB hb1 12 _ rfl
  have s12 : W.cell? ⟨w.heap.size + 1, 12, none⟩ = some (.slice ca' c'.length cc') := cellB hb2 12 _ rfl
  obtain ⟨F, Q, T, L, B, K⟩ := h
  obtain ⟨F', Q', T', L', B', K'⟩ := h'
  simp only [Hd.val] at *
  clear hb1 hb2
  generalize hz : decide ((⟨F, Q, T, L, B, K⟩ : Hd) = ⟨F', Q', T', L', B', K'⟩) = z at hE
  go_enter Tryd.func13, Tryd.ntmps13
  cases bbk : (k == k') with
  | false =>
    have ek : Shut (¬ k = k') := ⟨by simpa using bbk⟩
    go_wp2_with fail
    go_ret
    exact ⟨retB (by rw [← sN.out]; exact (decide_eq_false (fun e => ek.out (congrArg Rc.k e))).symm), hBW⟩
  | true =>
    have ek : Shut (k = k') := ⟨by simpa using bbk⟩
    cases bbp : (p == p') with
    | false =>
      have ep : Shut (¬ p = p') := ⟨by simpa using bbp⟩
      go_wp2_with fail
      go_ret
      exact ⟨retB (by rw [← sN.out]; exact (decide_eq_false (fun e => ep.out (congrArg Rc.p e))).symm), hBW⟩
    | true =>
      have ep : Shut (p = p') := ⟨by simpa using bbp⟩
      cases bbn : (n == n') with
      | false =>
        have en : Shut (¬ n = n') := ⟨by simpa using bbn⟩
        go_wp2_with fail
        go_ret
        exact ⟨retB (by rw [← sN.out]; exact (decide_eq_false (fun e => en.out (congrArg Rc.n e))).symm), hBW⟩
      | true =>
        have en : Shut (n = n') := ⟨by simpa using bbn⟩
        cases bby : (y == y') with
        | false =>
          have ey : Shut (¬ y = y') := ⟨by simpa using bby⟩
          go_wp2_with fail
          go_ret
          exact ⟨retB (by rw [← sN.out]; exact (decide_eq_false (fun e => ey.out (congrArg Rc.y e))).symm), hBW⟩
        | true =>
          have ey : Shut (y = y') := ⟨by simpa using bby⟩
          cases bz : z with
          | false =>
            have ez := Shut.mk (of_decide_eq_false (hz.trans bz))
            go_wp2_with fail
            go_ret
            exact ⟨retB (by rw [← sN.out]; exact (decide_eq_false (fun e => ez.out (congrArg Rc.h e))).symm), hBW⟩
          | true =>
            have ez := Shut.mk (of_decide_eq_true (hz.trans bz))
            cases bbid : (id == id') with
            | false =>
              have eid : Shut (¬ id = id') := ⟨by simpa using bbid⟩
              go_wp2_with fail
              go_ret
              exact ⟨retB (by rw [← sN.out]; exact (decide_eq_false (fun e => eid.out (congrArg Rc.id e))).symm), hBW⟩
            | true =>
              have eid : Shut (id = id') := ⟨by simpa using bbid⟩
              go_wp2_with fail
              refine (bytesEqual_any da da' dc dc' d d' hd hd').mono ?_
              rintro e _ ⟨rfl, rfl⟩
              cases hv : decide (d = d') with
              | false =>
                have ed := Shut.mk (of_decide_eq_false hv)
                go_wp2_with fail
                go_ret
                exact ⟨retB (by rw [← sN.out]; exact (decide_eq_false (fun e => ed.out (congrArg Rc.d e))).symm), hBW⟩
              | true =>
                have ed := Shut.mk (of_decide_eq_true hv)
                clear hv
                go_wp2_with fail
                refine (bytesEqual_any ca ca' cc cc' c c' hc hc').mono ?_
                rintro e _ ⟨rfl, rfl⟩
                cases hv : decide (c = c') with
                | false =>
                  have ec := Shut.mk (of_decide_eq_false hv)
                  go_wp2_with fail
                  go_ret
                  exact ⟨retB (by rw [← sN.out]; exact (decide_eq_false (fun e => ec.out (congrArg Rc.c e))).symm), hBW⟩
                | true =>
                  have ec := Shut.mk (of_decide_eq_true hv)
                  go_wp2_with fail
                  go_ret
                  exact ⟨retB (by rw [← sN.out]; exact (decide_eq_true (rc_eq ek.out ep.out en.out ey.out ez.out eid.out ed.out ec.out)).symm), hBW⟩

set_option maxHeartbeats 4000000 in
set_option maxRecDepth 8000 in
theorem sameRec_any (r q : Rc) (da : Option Addr) (dc : Nat) (ca : Option Addr) (cc : Nat) (da' : Option Addr) (dc' : Nat) (ca' : Option Addr) (cc' : Nat) (w : World) (hd : Lies w da (bs r.d)) (hc : Lies w ca (bs r.c)) (hd' : Lies w da' (bs q.d)) (hc' : Lies w ca' (bs q.c)) (ld : r.d.length ≤ maxLen) (lc : r.c.length ≤ maxLen) (ld' : q.d.length ≤ maxLen) (lc' : q.c.length ≤ maxLen) :
    Calls Tryd.prog 14 #[rcV r da dc ca cc, rcV q da' dc' ca' cc'] w fun e w' => e = .returned (.bool (decide (r = q))) ∧ Below w.heap.size w w' := by
  obtain ⟨N, hN⟩ : ∃ N, decide (r = q) = N := ⟨_, rfl⟩
  rw [hN]
  have sN := Shut.mk hN
  clear hN
  obtain ⟨k, p, n, y, h, id, d, c⟩ := r
  obtain ⟨k', p', n', y', h', id', d', c'⟩ := q
  have hE := eqlHead h h'
  simp only at hd hc hd' hc' ld lc ld' lc'
  simp only [rcV]
  obtain ⟨W, hW⟩ : ∃ W, (w.alloc (.cells #[.int .i64 k, .int .i64 p, .int .i64 n, .int .i64 y, .int .i64 h.F, .int .i64 h.Q, .int .i64 h.T, .int .i64 h.L, .int .i64 h.B, .int .i64 h.K, .int .i64 id, .slice da d.length dc, .slice ca c.length cc] 31)).alloc (.cells #[.int .i64 k', .int .i64 p', .int .i64 n', .int .i64 y', .int .i64 h'.F, .int .i64 h'.Q, .int .i64 h'.T, .int .i64 h'.L, .int .i64 h'.B, .int .i64 h'.K, .int .i64 id', .slice da' d'.length dc', .slice ca' c'.length cc'] 31) = W := ⟨_, rfl⟩
  have hBW : Below w.heap.size w W := by rw [← hW]; exact ((Below.refl _ _).alloc (Nat.le_refl _) _).alloc (by simp) _
  have hb1 : W.heap[w.heap.size]? = some (.cells #[.int .i64 k, .int .i64 p, .int .i64 n, .int .i64 y, .int .i64 h.F, .int .i64 h.Q, .int .i64 h.T, .int .i64 h.L, .int .i64 h.B, .int .i64 h.K, .int .i64 id, .slice da d.length dc, .slice ca c.length cc] 31 (0, 0)) := by rw [← hW, heap_alloc_eq, if_neg (by simp), heap_alloc_eq, if_pos rfl]
  have hb2 : W.heap[w.heap.size + 1]? = some (.cells #[.int .i64 k', .int .i64 p', .int .i64 n', .int .i64 y', .int .i64 h'.F, .int .i64 h'.Q, .int .i64 h'.T, .int .i64 h'.L, .int .i64 h'.B, .int .i64 h'.K, .int .i64 id', .slice da' d'.length dc', .slice ca' c'.length cc'] 31 (0, 0)) := by rw [← hW, heap_alloc_eq, if_pos (by simp)]
  replace hd := Lies.below hBW hd (Nat.le_refl _)
  replace hc := Lies.below hBW hc (Nat.le_refl _)
  replace hd' := Lies.below hBW hd' (Nat.le_refl _)
  replace hc' := Lies.below hBW hc' (Nat.le_refl _)
  have q0 : W.cell? ⟨w.heap.size, 0, none⟩ = some (.int .i64 k) := cellB hb1 0 _ rfl
  have s0 : W.cell? ⟨w.heap.size + 1, 0, none⟩ = some (.int .i64 k') := cellB hb2 0 _ rfl
  have q1 : W.cell? ⟨w.heap.size, 1, none⟩ = some (.int .i64 p) := cellB hb1 1 _ rfl
  have s1 : W.cell? ⟨w.heap.size + 1, 1, none⟩ = some (.int .i64 p') := cellB hb2 1 _ rfl
  have q2 : W.cell? ⟨w.heap.size, 2, none⟩ = some (.int .i64 n) := cellB hb1 2 _ rfl
  have s2 : W.cell? ⟨w.heap.size + 1, 2, none⟩ = some (.int .i64 n') := cellB hb2 2 _ rfl
  have q3 : W.cell? ⟨w.heap.size, 3, none⟩ = some (.int .i64 y) := cellB hb1 3 _ rfl
  have s3 : W.cell? ⟨w.heap.size + 1, 3, none⟩ = some (.int .i64 y') := cellB hb2 3 _ rfl
  have q4 : W.cell? ⟨w.heap.size, 4, none⟩ = some (.int .i64 h.F) := cellB hb1 4 _ rfl
  have s4 : W.cell? ⟨w.heap.size + 1, 4, none⟩ = some (.int .i64 h'.F) := cellB hb2 4 _ rfl
  have q5 : W.cell? ⟨w.heap.size, 5, none⟩ = some (.int .i64 h.Q) := cellB hb1 5 _ rfl
  have s5 : W.cell? ⟨w.heap.size + 1, 5, none⟩ = some (.int .i64 h'.Q) := cellB hb2 5 _ rfl
  have q6 : W.cell? ⟨w.heap.size, 6, none⟩ = some (.int .i64 h.T) := cellB hb1 6 _ rfl
  have s6 : W.cell? ⟨w.heap.size + 1, 6, none⟩ = some (.int .i64 h'.T) := cellB hb2 6 _ rfl
  have q7 : W.cell? ⟨w.heap.size, 7, none⟩ = some (.int .i64 h.L) := cellB hb1 7 _ rfl
  have s7 : W.cell? ⟨w.heap.size + 1, 7, none⟩ = some (.int .i64 h'.L) := cellB hb2 7 _ rfl
  have q8 : W.cell? ⟨w.heap.size, 8, none⟩ = some (.int .i64 h.B) := cellB hb1 8 _ rfl
  have s8 : W.cell? ⟨w.heap.size + 1, 8, none⟩ = some (.int .i64 h'.B) := cellB hb2 8 _ rfl
  have q9 : W.cell? ⟨w.heap.size, 9, none⟩ = some (.int .i64 h.K) := cellB hb1 9 _ rfl
  have s9 : W.cell? ⟨w.heap.size + 1, 9, none⟩ = some (.int .i64 h'.K) := cellB hb2 9 _ rfl
  have q10 : W.cell? ⟨w.heap.size, 10, none⟩ = some (.int .i64 id) := cellB hb1 10 _ rfl
  have s10 : W.cell? ⟨w.heap.size + 1, 10, none⟩ = some (.int .i64 id') := cellB hb2 10 _ rfl
  have q11 : W.cell? ⟨w.heap.size, 11, none⟩ = some (.slice da d.length dc) := cellB hb1 11 _ rfl
  have s11 : W.cell? ⟨w.heap.size + 1, 11, none⟩ = some (.slice da' d'.length dc') := cellB hb2 11 _ rfl
  have q12 : W.cell? ⟨w.heap.size, 12, none⟩ = some (.slice ca c.length cc) := cellB hb1 12 _ rfl
  have s12 : W.cell? ⟨w.heap.size + 1, 12, none⟩ = some (.slice ca' c'.length cc') := cellB hb2 12 _ rfl
  obtain ⟨F, Q, T, L, B, K⟩ := h
  obtain ⟨F', Q', T', L', B', K'⟩ := h'
  simp only [Hd.val] at *
  clear hb1 hb2
  generalize hz : decide ((⟨F, Q, T, L, B, K⟩ : Hd) = ⟨F', Q', T', L', B', K'⟩) = z at hE
  go_enter Tryd.func14, Tryd.ntmps14
  cases bbk : (k == k') with
  | false =>
    have ek : Shut (¬ k = k') := ⟨by simpa using bbk⟩
    go_wp2_with fail
    go_ret
    exact ⟨retB (by rw [← sN.out]; exact (decide_eq_false (fun e => ek.out (congrArg Rc.k e))).symm), hBW⟩
  | true =>
    have ek : Shut (k = k') := ⟨by simpa using bbk⟩
    cases bbp : (p == p') with
    | false =>
      have ep : Shut (¬ p = p') := ⟨by simpa using bbp⟩
      go_wp2_with fail
      go_ret
      exact ⟨retB (by rw [← sN.out]; exact (decide_eq_false (fun e => ep.out (congrArg Rc.p e))).symm), hBW⟩
    | true =>
      have ep : Shut (p = p') := ⟨by simpa using bbp⟩
      cases bbn : (n == n') with
      | false =>
        have en : Shut (¬ n = n') := ⟨by simpa using bbn⟩
        go_wp2_with fail
        go_ret
        exact ⟨retB (by rw [← sN.out]; exact (decide_eq_false (fun e => en.out (congrArg Rc.n e))).symm), hBW⟩
      | true =>
        have en : Shut (n = n') := ⟨by simpa using bbn⟩
        cases bby : (y == y') with
        | false =>
          have ey : Shut (¬ y = y') := ⟨by simpa using bby⟩
          go_wp2_with fail
          go_ret
          exact ⟨retB (by rw [← sN.out]; exact (decide_eq_false (fun e => ey.out (congrArg Rc.y e))).symm), hBW⟩
        | true =>
          have ey : Shut (y = y') := ⟨by simpa using bby⟩
          cases bz : z with
          | false =>
            have ez := Shut.mk (of_decide_eq_false (hz.trans bz))
            go_wp2_with fail
            go_ret
            exact ⟨retB (by rw [← sN.out]; exact (decide_eq_false (fun e => ez.out (congrArg Rc.h e))).symm), hBW⟩
          | true =>
            have ez := Shut.mk (of_decide_eq_true (hz.trans bz))
            cases bbid : (id == id') with
            | false =>
              have eid : Shut (¬ id = id') := ⟨by simpa using bbid⟩
              go_wp2_with fail
              go_ret
              exact ⟨retB (by rw [← sN.out]; exact (decide_eq_false (fun e => eid.out (congrArg Rc.id e))).symm), hBW⟩
            | true =>
              have eid : Shut (id = id') := ⟨by simpa using bbid⟩
              go_wp2_with fail
              refine (equalBlock da da' dc dc' d d' ld ld' hd hd').mono ?_
              rintro e _ ⟨rfl, n1, rfl⟩
              have hB1 : Below w.heap.size w (W.drewN n1) := hBW.trans (bdn W n1 _)
              have hBW0 := hBW
              replace hBW := hB1
              replace hc := Lies.below (bdn W n1 W.heap.size) hc (Nat.le_refl _)
              replace hc' := Lies.below (bdn W n1 W.heap.size) hc' (Nat.le_refl _)
              cases hv : decide (d = d') with
              | false =>
                have ed := Shut.mk (of_decide_eq_false hv)
                go_wp2_with fail
                go_ret
                exact ⟨retB (by rw [← sN.out]; exact (decide_eq_false (fun e => ed.out (congrArg Rc.d e))).symm), hBW⟩
              | true =>
                have ed := Shut.mk (of_decide_eq_true hv)
                clear hv
                have t12 : (W.drewN n1).cell? ⟨w.heap.size, 12, none⟩ = some (.slice ca c.length cc) := cellW q12 (bdn W n1 _)
                have t12' : (W.drewN n1).cell? ⟨w.heap.size + 1, 12, none⟩ = some (.slice ca' c'.length cc') := cellW s12 (bdn W n1 _)
                go_wp2_with fail
                refine (equalBytes ca ca' cc cc' c c' lc lc' hc hc').mono ?_
                rintro e _ ⟨rfl, n2, rfl⟩
                replace hBW := hBW0.trans (bdn W (n1 + n2) _)
                cases hv : decide (c = c') with
                | false =>
                  have ec := Shut.mk (of_decide_eq_false hv)
                  go_wp2_with fail
                  go_ret
                  exact ⟨retB (by rw [← sN.out]; exact (decide_eq_false (fun e => ec.out (congrArg Rc.c e))).symm), hBW⟩
                | true =>
                  have ec := Shut.mk (of_decide_eq_true hv)
                  go_wp2_with fail
                  go_ret
                  exact ⟨retB (by rw [← sN.out]; exact (decide_eq_true (rc_eq ek.out ep.out en.out ey.out ez.out eid.out ed.out ec.out)).symm), hBW⟩

end Go.Proofs.YtippbfbdghfnaaaDoor

/-
  Chapter 7: the law's closed fact: one record is printed, and read again.
-/
namespace Go.Proofs.YtippbfbdghfnaaaDoor
open Go.RowKit
set_option linter.unusedVariables false
set_option linter.unusedSimpArgs false

def hd0 : Hd := ⟨1, 0, 2, 50, 2, 1⟩
def rec0 : Rc := ⟨2, 0, 0, 0, hd0, 3, [10], []⟩
def text0 : List UInt8 := [50, 32, 48, 32, 48, 32, 48, 32, 49, 32, 48, 32, 50, 32, 53, 48, 32, 50, 32, 49, 32, 51, 32, 45, 48, 97, 32, 45]

theorem rec0_ints : rec0.ints := by
  refine ⟨?_, ?_, ?_, ?_, ⟨?_, ?_, ?_, ?_, ?_, ?_⟩, ?_⟩ <;> (constructor <;> decide)

theorem rec0_code : rec0.code = 0 := by decide

theorem rec0_text : rec0.text = text0 := by
  simp [Rc.text, Rc.words, Rc.nums, rec0, hd0, text0, Lib.join, List.intercalate, List.intersperse, Lib.itoa, Lib.decDigits, hexW, hexL, dig, digsL]

theorem hd0_code : hdCode hd0 = 0 := by decide

theorem lawHead_any (w : World) : Calls Tryd.prog 33 #[] w fun e w' => e = .returned (.agg #[.int .i64 1, .int .i64 0, .int .i64 2, .int .i64 50, .int .i64 2, .int .i64 1]) ∧ Below w.heap.size w w' := by
  go_enter Tryd.func33, Tryd.ntmps33
  go_wp2
  refine bodyPost_ret (v := .agg #[.int .i64 1, .int .i64 0, .int .i64 2, .int .i64 50, .int .i64 2, .int .i64 1]) (by simp [results, Tryd.results33, go_sem]) rfl ?_
  exact ⟨rfl, (Below.refl _ _).alloc (Nat.le_refl _) _⟩

set_option maxHeartbeats 1000000 in
set_option maxRecDepth 8000 in
theorem lined_any (w : World) (hL : LaidN w) : Calls Tryd.prog 9 #[] w fun e w' => e = .returned (.bool true) ∧ Below w.heap.size w w' := by
  have hpr : rec0.printed = text0 := by rw [Rc.printed, if_pos rec0_code, rec0_text]
  have hrd : readL text0 = some rec0 := by rw [← rec0_text]; exact read_text rec0_ints
  have hpc : pCode text0 = 0 := by rw [pCode, if_neg (by decide), hrd]; exact rec0_code
  go_enter Tryd.func9, Tryd.ntmps9
  go_wp2_with fail
  refine (lawHead_any w).mono ?_
  rintro e W0 ⟨rfl, hb0⟩
  go_upto_region 2 with fail
  generalize hW2 : (W0.alloc (.cells #[.int .u8 10] 5)).alloc (.cells #[.int .i64 2, .int .i64 0, .int .i64 0, .int .i64 0, .int .i64 1, .int .i64 0, .int .i64 2, .int .i64 50, .int .i64 2, .int .i64 1, .int .i64 3, .slice (some ⟨W0.heap.size, 0, none⟩) 1 1, .slice none 0 0] 31) = W2
  have hb2 : Below W0.heap.size W0 W2 := by rw [← hW2]; exact ((Below.refl _ _).alloc (Nat.le_refl _) _).alloc (by simp) _
  have hg2 : W2.heap[W0.heap.size + 1]? = some (.cells #[.int .i64 2, .int .i64 0, .int .i64 0, .int .i64 0, .int .i64 1, .int .i64 0, .int .i64 2, .int .i64 50, .int .i64 2, .int .i64 1, .int .i64 3, .slice (some ⟨W0.heap.size, 0, none⟩) 1 1, .slice none 0 0] 31 (0, 0)) := by rw [← hW2, heap_alloc_eq, if_pos (by simp)]
  have hd2 : W2.heap[W0.heap.size]? = some (.cells #[.int .u8 10] 5 (0, 0)) := by rw [← hW2, heap_alloc_eq, if_neg (by simp), heap_alloc_eq, if_pos rfl]
  have hld : Lies W2 (some ⟨W0.heap.size, 0, none⟩) (bs [10]) := Lies.mk fun k hk => by
    match k, hk with
    | 0, _ => exact cellB hd2 0 _ rfl
  have hF2 := hb0.trans (hb2.mono hb0.size)
  have hL2 := hL.below hF2
  have hP := print_any rec0 (some ⟨W0.heap.size, 0, none⟩) 1 none 0 W2 rec0_ints (by decide) hld (Lies.nil _ _) hL2
  rw [hpr, rec0_code] at hP
  simp only [rcV, rec0, hd0, List.length_cons, List.length_nil, Nat.zero_add] at hP
  have q0 : W2.cell? ⟨W0.heap.size + 1, 0, none⟩ = some (.int .i64 2) := cellB hg2 0 _ rfl
  have q1 : W2.cell? ⟨W0.heap.size + 1, 1, none⟩ = some (.int .i64 0) := cellB hg2 1 _ rfl
  have q2 : W2.cell? ⟨W0.heap.size + 1, 2, none⟩ = some (.int .i64 0) := cellB hg2 2 _ rfl
  have q3 : W2.cell? ⟨W0.heap.size + 1, 3, none⟩ = some (.int .i64 0) := cellB hg2 3 _ rfl
  have q4 : W2.cell? ⟨W0.heap.size + 1, 4, none⟩ = some (.int .i64 1) := cellB hg2 4 _ rfl
  have q5 : W2.cell? ⟨W0.heap.size + 1, 5, none⟩ = some (.int .i64 0) := cellB hg2 5 _ rfl
  have q6 : W2.cell? ⟨W0.heap.size + 1, 6, none⟩ = some (.int .i64 2) := cellB hg2 6 _ rfl
  have q7 : W2.cell? ⟨W0.heap.size + 1, 7, none⟩ = some (.int .i64 50) := cellB hg2 7 _ rfl
  have q8 : W2.cell? ⟨W0.heap.size + 1, 8, none⟩ = some (.int .i64 2) := cellB hg2 8 _ rfl
  have q9 : W2.cell? ⟨W0.heap.size + 1, 9, none⟩ = some (.int .i64 1) := cellB hg2 9 _ rfl
  have q10 : W2.cell? ⟨W0.heap.size + 1, 10, none⟩ = some (.int .i64 3) := cellB hg2 10 _ rfl
  have q11 : W2.cell? ⟨W0.heap.size + 1, 11, none⟩ = some (.slice (some ⟨W0.heap.size, 0, none⟩) 1 1) := cellB hg2 11 _ rfl
  have q12 : W2.cell? ⟨W0.heap.size + 1, 12, none⟩ = some (.slice none 0 0) := cellB hg2 12 _ rfl
  clear hb0 hb2 hd2 hL
  go_wp2_with fail
  refine hP.mono ?_
  rintro e W3 ⟨rfl, hb3⟩
  have hF3 := hF2.trans (hb3.mono hF2.size)
  have hg3 := blkB hg2 hb3
  replace hld := hld.below hb3 (Nat.le_refl _)
  have hQ := parse_any ⟨text0.toArray⟩ W3 (hL2.below hb3)
  clear hP hb3 hF2 hg2 hW2 hL2 q0 q1 q2 q3 q4 q5 q6 q7 q8 q9 q10 q11 q12
  go_wp2_with fail
  refine hQ.mono ?_
  rintro e W4 ⟨hb4, hR⟩
  rcases hR with ⟨hne, _⟩ | ⟨_, r, da, dc, ca, cc, hr1, _, rfl, hl1, hl2⟩
  · exact absurd hpc hne
  obtain rfl : r = rec0 := by
    have : readL text0 = some r := hr1
    rw [hrd] at this
    exact (Option.some.inj this).symm
  have hF4 := hF3.trans (hb4.mono hF3.size)
  have hg4 := blkB hg3 hb4
  replace hld := hld.below hb4 (Nat.le_refl _)
  simp only [rcV, rec0, hd0, List.length_cons, List.length_nil, Nat.zero_add] at hl1 hl2 ⊢
  go_upto_region 4 with fail
  generalize hW5 : W4.alloc (.cells #[.int .i64 2, .int .i64 0, .int .i64 0, .int .i64 0, .int .i64 1, .int .i64 0, .int .i64 2, .int .i64 50, .int .i64 2, .int .i64 1, .int .i64 3, .slice da 1 dc, .slice ca 0 cc] 31) = W5
  have hb5 : Below W4.heap.size W4 W5 := by rw [← hW5]; exact (Below.refl _ _).alloc (Nat.le_refl _) _
  have hq5 : W5.heap[W4.heap.size]? = some (.cells #[.int .i64 2, .int .i64 0, .int .i64 0, .int .i64 0, .int .i64 1, .int .i64 0, .int .i64 2, .int .i64 50, .int .i64 2, .int .i64 1, .int .i64 3, .slice da 1 dc, .slice ca 0 cc] 31 (0, 0)) := by rw [← hW5, heap_alloc_eq, if_pos rfl]
  have hg5 := blkB hg4 hb5
  have hF5 := hF4.trans (hb5.mono hF4.size)
  have hS := same_any rec0 rec0 (some ⟨W0.heap.size, 0, none⟩) 1 none 0 da dc ca cc W5 (hld.below hb5 (Nat.le_refl _)) (Lies.nil _ _) (hl1.below hb5 (Nat.le_refl _)) (hl2.below hb5 (Nat.le_refl _)) (by decide) (by decide) (by decide) (by decide)
  rw [decide_eq_true (rfl : rec0 = rec0)] at hS
  simp only [rcV, rec0, hd0, List.length_cons, List.length_nil, Nat.zero_add] at hS
  have q0 : W5.cell? ⟨W0.heap.size + 1, 0, none⟩ = some (.int .i64 2) := cellB hg5 0 _ rfl
  have q1 : W5.cell? ⟨W0.heap.size + 1, 1, none⟩ = some (.int .i64 0) := cellB hg5 1 _ rfl
  have q2 : W5.cell? ⟨W0.heap.size + 1, 2, none⟩ = some (.int .i64 0) := cellB hg5 2 _ rfl
  have q3 : W5.cell? ⟨W0.heap.size + 1, 3, none⟩ = some (.int .i64 0) := cellB hg5 3 _ rfl
  have q4 : W5.cell? ⟨W0.heap.size + 1, 4, none⟩ = some (.int .i64 1) := cellB hg5 4 _ rfl
  have q5 : W5.cell? ⟨W0.heap.size + 1, 5, none⟩ = some (.int .i64 0) := cellB hg5 5 _ rfl
  have q6 : W5.cell? ⟨W0.heap.size + 1, 6, none⟩ = some (.int .i64 2) := cellB hg5 6 _ rfl
  have q7 : W5.cell? ⟨W0.heap.size + 1, 7, none⟩ = some (.int .i64 50) := cellB hg5 7 _ rfl
  have q8 : W5.cell? ⟨W0.heap.size + 1, 8, none⟩ = some (.int .i64 2) := cellB hg5 8 _ rfl
  have q9 : W5.cell? ⟨W0.heap.size + 1, 9, none⟩ = some (.int .i64 1) := cellB hg5 9 _ rfl
  have q10 : W5.cell? ⟨W0.heap.size + 1, 10, none⟩ = some (.int .i64 3) := cellB hg5 10 _ rfl
  have q11 : W5.cell? ⟨W0.heap.size + 1, 11, none⟩ = some (.slice (some ⟨W0.heap.size, 0, none⟩) 1 1) := cellB hg5 11 _ rfl
  have q12 : W5.cell? ⟨W0.heap.size + 1, 12, none⟩ = some (.slice none 0 0) := cellB hg5 12 _ rfl
  have z0 : W5.cell? ⟨W4.heap.size, 0, none⟩ = some (.int .i64 2) := cellB hq5 0 _ rfl
  have z1 : W5.cell? ⟨W4.heap.size, 1, none⟩ = some (.int .i64 0) := cellB hq5 1 _ rfl
  have z2 : W5.cell? ⟨W4.heap.size, 2, none⟩ = some (.int .i64 0) := cellB hq5 2 _ rfl
  have z3 : W5.cell? ⟨W4.heap.size, 3, none⟩ = some (.int .i64 0) := cellB hq5 3 _ rfl
  have z4 : W5.cell? ⟨W4.heap.size, 4, none⟩ = some (.int .i64 1) := cellB hq5 4 _ rfl
  have z5 : W5.cell? ⟨W4.heap.size, 5, none⟩ = some (.int .i64 0) := cellB hq5 5 _ rfl
  have z6 : W5.cell? ⟨W4.heap.size, 6, none⟩ = some (.int .i64 2) := cellB hq5 6 _ rfl
  have z7 : W5.cell? ⟨W4.heap.size, 7, none⟩ = some (.int .i64 50) := cellB hq5 7 _ rfl
  have z8 : W5.cell? ⟨W4.heap.size, 8, none⟩ = some (.int .i64 2) := cellB hq5 8 _ rfl
  have z9 : W5.cell? ⟨W4.heap.size, 9, none⟩ = some (.int .i64 1) := cellB hq5 9 _ rfl
  have z10 : W5.cell? ⟨W4.heap.size, 10, none⟩ = some (.int .i64 3) := cellB hq5 10 _ rfl
  have z11 : W5.cell? ⟨W4.heap.size, 11, none⟩ = some (.slice da 1 dc) := cellB hq5 11 _ rfl
  have z12 : W5.cell? ⟨W4.heap.size, 12, none⟩ = some (.slice ca 0 cc) := cellB hq5 12 _ rfl
  have hcmp : (⟨text0.toArray⟩ : ByteArray).toList = [50, 32, 48, 32, 48, 32, 48, 32, 49, 32, 48, 32, 50, 32, 53, 48, 32, 50, 32, 49, 32, 51, 32, 45, 48, 97, 32, 45] := by rw [Lib.toList_data]; rfl
  generalize (⟨text0.toArray⟩ : ByteArray) = TB at hcmp ⊢
  clear hb4 hb5 hg3 hg4 hF3 hF4 hld hl1 hl2 hQ hpc hrd hpr
  go_wp2_with fail
  refine hS.mono ?_
  rintro e W6 ⟨rfl, hb6⟩
  have hF6 := hF5.trans (hb6.mono hF5.size)
  clear hS hb6
  go_wp2_with fail
  refine (lawHead_any W6).mono ?_
  rintro e W7 ⟨rfl, hb7⟩
  have hF7 := hF6.trans (hb7.mono hF6.size)
  have hH := head_any hd0 W7 (by refine ⟨?_, ?_, ?_, ?_, ?_, ?_⟩ <;> (constructor <;> decide))
  rw [hd0_code] at hH
  simp only [Hd.val, hd0] at hH
  clear hb7
  go_wp2_with fail
  refine hH.mono ?_
  rintro e W8 ⟨rfl, hb8⟩
  have hF8 := hF7.trans (hb8.mono hF7.size)
  clear hH hb8
  go_wp2
  go_ret
  exact ⟨rfl, hF8⟩

end Go.Proofs.YtippbfbdghfnaaaDoor
