import Derived.Test.YtakkajjoeimkdaaGreatDoorPart8
import Derived.Test.YtakkajjoeimkdaaGreatDoorPart5
import Derived.Test.YtakkajjoeimkdaaGreatDoorPart2
import Derived.Test.YtakkajjoeimkdaaGreatDoorPart29
namespace Go.Proofs.YtakkajjoeimkdaaGreatDoor
open Go.RowKit
set_option linter.unusedVariables false
set_option linter.unusedSimpArgs false

theorem bytesIn_lies {w : World} {a : Option Addr} {l : List UInt8} (h : Lies w a (bs l)) : Lib.BytesIn w a l.length (l.map fun x => (x.toNat : Int)) := by
 intro hn
 obtain ⟨b, off, e, _⟩ := h 0 _ (bs_get l 0 hn)
 refine ⟨b, off, e, fun i hi => ?_⟩
 have h1 := h.lt e i (by rw [bs_length]; exact hi)
 rw [h1]
 simp [bs, hi]

theorem bytesOf_nats (l : List UInt8) : Lib.bytesOf (l.map fun x => (x.toNat : Int)) = l := by
 unfold Lib.bytesOf
 rw [List.map_map]
 conv => rhs; rw [← List.map_id l]
 refine List.map_congr_left fun x _ => ?_
 simp

theorem noteBytes_any {w : World} (a b : Option Addr) (ca cb : Nat) (xs ys : List UInt8) (ha : Lies w a (bs xs)) (hb : Lies w b (bs ys)) :
  Calls Tryz.prog 45 #[.slice a xs.length ca, .slice b ys.length cb] w fun e w' => e = .returned (.bool (decide (xs = ys))) ∧ w = w' := by
 refine (Tryz.bytes_Equal_all a b xs.length ca ys.length cb _ _ w (by simp) (by simp) (bytesIn_lies ha) (bytesIn_lies hb)).mono ?_
 rintro e w' ⟨rfl, rfl⟩
 rw [bytesOf_nats, bytesOf_nats]
 exact ⟨retB (by rw [Bool.eq_iff_iff]; simp), rfl⟩

theorem rc_eq {a b : Rc} (h1 : a.k = b.k) (h2 : a.p = b.p) (h3 : a.n = b.n) (h4 : a.y = b.y) (h5 : a.h = b.h) (h6 : a.id = b.id) (h7 : a.d = b.d) (h8 : a.c = b.c) : a = b := by
 obtain ⟨k, p, n, y, h, id, d, c⟩ := a
 obtain ⟨k', p', n', y', h', id', d', c'⟩ := b
 simp only at h1 h2 h3 h4 h5 h6 h7 h8
 subst h1 h2 h3 h4 h5 h6 h7 h8
 rfl

set_option maxHeartbeats 4000000 in
set_option maxRecDepth 8000 in
theorem noteSame_any (r q : Rc) (da : Option Addr) (dc : Nat) (ca : Option Addr) (cc : Nat) (da' : Option Addr) (dc' : Nat) (ca' : Option Addr) (cc' : Nat) (w : World) (hd : Lies w da (bs r.d)) (hc : Lies w ca (bs r.c)) (hd' : Lies w da' (bs q.d)) (hc' : Lies w ca' (bs q.c)) (ld : r.d.length ≤ maxLen) (lc : r.c.length ≤ maxLen) (ld' : q.d.length ≤ maxLen) (lc' : q.c.length ≤ maxLen) :
  Calls Tryz.prog 18 #[rcV r da dc ca cc, rcV q da' dc' ca' cc'] w fun e w' => e = .returned (.bool (decide (r = q))) ∧ Below w.heap.size w w' := by
 obtain ⟨N, hN⟩ : ∃ N, decide (r = q) = N := ⟨_, rfl⟩
 rw [hN]
 have sN := Shut.mk hN
 clear hN
 obtain ⟨k, p, n, y, h, id, d, c⟩ := r
 obtain ⟨k', p', n', y', h', id', d', c'⟩ := q
 have hE := eqlHead h h'
 simp only at hd hc hd' hc' ld lc ld' lc'
 simp only [rcV]
 obtain ⟨W, hW⟩ : ∃ W, (w.alloc (.cells #[.int .i64 k, .int .i64 p, .int .i64 n, .int .i64 y, .int .i64 h.F, .int .i64 h.Q, .int .i64 h.T, .int .i64 h.L, .int .i64 h.B, .int .i64 h.K, .int .i64 id, .slice da d.length dc, .slice ca c.length cc] 40)).alloc (.cells #[.int .i64 k', .int .i64 p', .int .i64 n', .int .i64 y', .int .i64 h'.F, .int .i64 h'.Q, .int .i64 h'.T, .int .i64 h'.L, .int .i64 h'.B, .int .i64 h'.K, .int .i64 id', .slice da' d'.length dc', .slice ca' c'.length cc'] 40) = W := ⟨_, rfl⟩
 have hBW : Below w.heap.size w W := by rw [← hW]; exact ((Below.refl _ _).alloc (Nat.le_refl _) _).alloc (by simp) _
 have hb1 : W.heap[w.heap.size]? = some (.cells #[.int .i64 k, .int .i64 p, .int .i64 n, .int .i64 y, .int .i64 h.F, .int .i64 h.Q, .int .i64 h.T, .int .i64 h.L, .int .i64 h.B, .int .i64 h.K, .int .i64 id, .slice da d.length dc, .slice ca c.length cc] 40 (0, 0)) := by rw [← hW, heap_alloc_eq, if_neg (by simp), heap_alloc_eq, if_pos rfl]
 have hb2 : W.heap[w.heap.size + 1]? = some (.cells #[.int .i64 k', .int .i64 p', .int .i64 n', .int .i64 y', .int .i64 h'.F, .int .i64 h'.Q, .int .i64 h'.T, .int .i64 h'.L, .int .i64 h'.B, .int .i64 h'.K, .int .i64 id', .slice da' d'.length dc', .slice ca' c'.length cc'] 40 (0, 0)) := by rw [← hW, heap_alloc_eq, if_pos (by simp)]
 replace hd := Lies.below hBW hd (Nat.le_refl _)
 replace hc := Lies.below hBW hc (Nat.le_refl _)
 replace hd' := Lies.below hBW hd' (Nat.le_refl _)
 replace hc' := Lies.below hBW hc' (Nat.le_refl _)
 have q0 : W.cell? ⟨w.heap.size, 0, none⟩ = some (.int .i64 k) := cellB hb1 0 _ rfl
 have s0 : W.cell? ⟨w.heap.size + 1, 0, none⟩ = some (.int .i64 k') := cellB hb2 0 _ rfl
 have q1 : W.cell? ⟨w.heap.size, 1, none⟩ = some (.int .i64 p) := cellB hb1 1 _ rfl
 have s1 : W.cell? ⟨w.heap.size + 1, 1, none⟩ = some (.int .i64 p') := cellB hb2 1 _ rfl
 have q2 : W.cell? ⟨w.heap.size, 2, none⟩ = some (.int .i64 n) := cellB hb1 2 _ rfl
 have s2 : W.cell? ⟨w.heap.size + 1, 2, none⟩ = some (.int .i64 n') := cellB hb2 2 _ rfl
 have q3 : W.cell? ⟨w.heap.size, 3, none⟩ = some (.int .i64 y) := cellB hb1 3 _ rfl
 have s3 : W.cell? ⟨w.heap.size + 1, 3, none⟩ = some (.int .i64 y') := cellB hb2 3 _ rfl
 have q4 : W.cell? ⟨w.heap.size, 4, none⟩ = some (.int .i64 h.F) := cellB hb1 4 _ rfl
 have s4 : W.cell? ⟨w.heap.size + 1, 4, none⟩ = some (.int .i64 h'.F) := cellB hb2 4 _ rfl
 have q5 : W.cell? ⟨w.heap.size, 5, none⟩ = some (.int .i64 h.Q) := cellB hb1 5 _ rfl
 have s5 : W.cell? ⟨w.heap.size + 1, 5, none⟩ = some (.int .i64 h'.Q) := cellB hb2 5 _ rfl
 have q6 : W.cell? ⟨w.heap.size, 6, none⟩ = some (.int .i64 h.T) := cellB hb1 6 _ rfl
 have s6 : W.cell? ⟨w.heap.size + 1, 6, none⟩ = some (.int .i64 h'.T) := cellB hb2 6 _ rfl
 have q7 : W.cell? ⟨w.heap.size, 7, none⟩ = some (.int .i64 h.L) := cellB hb1 7 _ rfl
 have s7 : W.cell? ⟨w.heap.size + 1, 7, none⟩ = some (.int .i64 h'.L) := cellB hb2 7 _ rfl
 have q8 : W.cell? ⟨w.heap.size, 8, none⟩ = some (.int .i64 h.B) := cellB hb1 8 _ rfl
 have s8 : W.cell? ⟨w.heap.size + 1, 8, none⟩ = some (.int .i64 h'.B) := cellB hb2 8 _ rfl
 have q9 : W.cell? ⟨w.heap.size, 9, none⟩ = some (.int .i64 h.K) := cellB hb1 9 _ rfl
 have s9 : W.cell? ⟨w.heap.size + 1, 9, none⟩ = some (.int .i64 h'.K) := cellB hb2 9 _ rfl
 have q10 : W.cell? ⟨w.heap.size, 10, none⟩ = some (.int .i64 id) := cellB hb1 10 _ rfl
 have s10 : W.cell? ⟨w.heap.size + 1, 10, none⟩ = some (.int .i64 id') := cellB hb2 10 _ rfl
 have q11 : W.cell? ⟨w.heap.size, 11, none⟩ = some (.slice da d.length dc) := cellB hb1 11 _ rfl
 have s11 : W.cell? ⟨w.heap.size + 1, 11, none⟩ = some (.slice da' d'.length dc') := cellB hb2 11 _ rfl
 have q12 : W.cell? ⟨w.heap.size, 12, none⟩ = some (.slice ca c.length cc) := cellB hb1 12 _ rfl
 have s12 : W.cell? ⟨w.heap.size + 1, 12, none⟩ = some (.slice ca' c'.length cc') := cellB hb2 12 _ rfl
 obtain ⟨F, Q, T, L, B, K⟩ := h
 obtain ⟨F', Q', T', L', B', K'⟩ := h'
 simp only [Hd.val] at *
 clear hb1 hb2
 generalize hz : decide ((⟨F, Q, T, L, B, K⟩ : Hd) = ⟨F', Q', T', L', B', K'⟩) = z at hE
 go_enter Tryz.func18, Tryz.ntmps18
 cases bbk : (k == k') with
 | false =>
  have ek : Shut (¬ k = k') := ⟨by simpa using bbk⟩
  go_wp2_with fail
  go_ret
  exact ⟨retB (by rw [← sN.out]; exact (decide_eq_false (fun e => ek.out (congrArg Rc.k e))).symm), hBW⟩
 | true =>
  have ek : Shut (k = k') := ⟨by simpa using bbk⟩
  cases bbp : (p == p') with
  | false =>
   have ep : Shut (¬ p = p') := ⟨by simpa using bbp⟩
   go_wp2_with fail
   go_ret
   exact ⟨retB (by rw [← sN.out]; exact (decide_eq_false (fun e => ep.out (congrArg Rc.p e))).symm), hBW⟩
  | true =>
   have ep : Shut (p = p') := ⟨by simpa using bbp⟩
   cases bbn : (n == n') with
   | false =>
    have en : Shut (¬ n = n') := ⟨by simpa using bbn⟩
    go_wp2_with fail
    go_ret
    exact ⟨retB (by rw [← sN.out]; exact (decide_eq_false (fun e => en.out (congrArg Rc.n e))).symm), hBW⟩
   | true =>
    have en : Shut (n = n') := ⟨by simpa using bbn⟩
    cases bby : (y == y') with
    | false =>
     have ey : Shut (¬ y = y') := ⟨by simpa using bby⟩
     go_wp2_with fail
     go_ret
     exact ⟨retB (by rw [← sN.out]; exact (decide_eq_false (fun e => ey.out (congrArg Rc.y e))).symm), hBW⟩
    | true =>
     have ey : Shut (y = y') := ⟨by simpa using bby⟩
     cases bz : z with
     | false =>
      have ez := Shut.mk (of_decide_eq_false (hz.trans bz))
      go_wp2_with fail
      go_ret
      exact ⟨retB (by rw [← sN.out]; exact (decide_eq_false (fun e => ez.out (congrArg Rc.h e))).symm), hBW⟩
     | true =>
      have ez := Shut.mk (of_decide_eq_true (hz.trans bz))
      cases bbid : (id == id') with
      | false =>
       have eid : Shut (¬ id = id') := ⟨by simpa using bbid⟩
       go_wp2_with fail
       go_ret
       exact ⟨retB (by rw [← sN.out]; exact (decide_eq_false (fun e => eid.out (congrArg Rc.id e))).symm), hBW⟩
      | true =>
       have eid : Shut (id = id') := ⟨by simpa using bbid⟩
       go_wp2_with fail
       refine (noteBytes_any da da' dc dc' d d' hd hd').mono ?_
       rintro e _ ⟨rfl, rfl⟩
       cases hv : decide (d = d') with
       | false =>
        have ed := Shut.mk (of_decide_eq_false hv)
        go_wp2_with fail
        go_ret
        exact ⟨retB (by rw [← sN.out]; exact (decide_eq_false (fun e => ed.out (congrArg Rc.d e))).symm), hBW⟩
       | true =>
        have ed := Shut.mk (of_decide_eq_true hv)
        clear hv
        go_wp2_with fail
        refine (noteBytes_any ca ca' cc cc' c c' hc hc').mono ?_
        rintro e _ ⟨rfl, rfl⟩
        cases hv : decide (c = c') with
        | false =>
         have ec := Shut.mk (of_decide_eq_false hv)
         go_wp2_with fail
         go_ret
         exact ⟨retB (by rw [← sN.out]; exact (decide_eq_false (fun e => ec.out (congrArg Rc.c e))).symm), hBW⟩
        | true =>
         have ec := Shut.mk (of_decide_eq_true hv)
         go_wp2_with fail
         go_ret
         exact ⟨retB (by rw [← sN.out]; exact (decide_eq_true (rc_eq ek.out ep.out en.out ey.out ez.out eid.out ed.out ec.out)).symm), hBW⟩

theorem kpEq {a b : Kp} : a = b ↔ a.h = b.h ∧ a.own = b.own ∧ a.c = b.c ∧ a.ss = b.ss ∧ a.sh = b.sh ∧ a.gv = b.gv ∧ a.tw = b.tw ∧ a.tr = b.tr ∧ a.tk = b.tk ∧ a.dl = b.dl ∧ a.pg = b.pg := by
 obtain ⟨a0, a1, a2, a3, a4, a5, a6, a7, a8, a9, a10⟩ := a
 obtain ⟨b0, b1, b2, b3, b4, b5, b6, b7, b8, b9, b10⟩ := b
 simp

theorem kbq_cases (a b : Bool) : ((a == b) = true ∧ a = b) ∨ ((a == b) = false ∧ ¬ a = b) := by
 cases a <;> cases b <;> simp

theorem kpCellsK {W : World} {g : Nat} {a0 a1 a2 a3 a4 a5 a6 a7 a8 a9 a10 a11 a12 a13 a14 a15 : Value} (h : W.heap[g]? = some (.cells #[a0, a1, a2, a3, a4, a5, a6, a7, a8, a9, a10, a11, a12, a13, a14, a15] 88 (0, 0))) :
  W.cell? ⟨g, 0, none⟩ = some a0 ∧ W.cell? ⟨g, 1, none⟩ = some a1 ∧ W.cell? ⟨g, 2, none⟩ = some a2 ∧ W.cell? ⟨g, 3, none⟩ = some a3 ∧ W.cell? ⟨g, 4, none⟩ = some a4 ∧ W.cell? ⟨g, 5, none⟩ = some a5 ∧ W.cell? ⟨g, 6, none⟩ = some a6 ∧ W.cell? ⟨g, 7, none⟩ = some a7 ∧ W.cell? ⟨g, 8, none⟩ = some a8 ∧ W.cell? ⟨g, 9, none⟩ = some a9 ∧ W.cell? ⟨g, 10, none⟩ = some a10 ∧ W.cell? ⟨g, 11, none⟩ = some a11 ∧ W.cell? ⟨g, 12, none⟩ = some a12 ∧ W.cell? ⟨g, 13, none⟩ = some a13 ∧ W.cell? ⟨g, 14, none⟩ = some a14 ∧ W.cell? ⟨g, 15, none⟩ = some a15 :=
 ⟨cellB h 0 _ rfl, cellB h 1 _ rfl, cellB h 2 _ rfl, cellB h 3 _ rfl, cellB h 4 _ rfl, cellB h 5 _ rfl, cellB h 6 _ rfl, cellB h 7 _ rfl, cellB h 8 _ rfl, cellB h 9 _ rfl, cellB h 10 _ rfl, cellB h 11 _ rfl, cellB h 12 _ rfl, cellB h 13 _ rfl, cellB h 14 _ rfl, cellB h 15 _ rfl⟩

structure KpSame (w : World) (m : MKp) : Prop where
 inn : KpIn w m
 fits : m.fits

theorem KpSame.below {w w' : World} {m : MKp} (h : KpSame w m) (hb : Below w.heap.size w w') : KpSame w' m := ⟨h.inn.below hb, h.fits⟩

theorem KpGood.same {w : World} {m : MKp} (h : KpGood w m) : KpSame w m := ⟨h.inn, h.fits⟩

set_option maxHeartbeats 8000000 in
set_option maxRecDepth 8000 in
theorem sameKept_any (x y : MKp) (w : World) (hx : KpSame w x) (hy : KpSame w y) :
  Calls Tryz.prog 44 #[.agg #[.int .i64 x.k.h.F, .int .i64 x.k.h.Q, .int .i64 x.k.h.T, .int .i64 x.k.h.L, .int .i64 x.k.h.B, .int .i64 x.k.h.K, .bool x.k.own, .slice x.ca x.k.c.length x.cc, .slice x.ya x.ys.length x.yc, .int .i64 x.k.sh, .int .i64 x.k.gv, .int .i64 x.k.tw, .int .i64 x.k.tr, .slice x.ta x.k.tk.length x.tc, .bool x.k.dl, .bool x.k.pg], .agg #[.int .i64 y.k.h.F, .int .i64 y.k.h.Q, .int .i64 y.k.h.T, .int .i64 y.k.h.L, .int .i64 y.k.h.B, .int .i64 y.k.h.K, .bool y.k.own, .slice y.ca y.k.c.length y.cc, .slice y.ya y.ys.length y.yc, .int .i64 y.k.sh, .int .i64 y.k.gv, .int .i64 y.k.tw, .int .i64 y.k.tr, .slice y.ta y.k.tk.length y.tc, .bool y.k.dl, .bool y.k.pg]] w fun e w' => e = .returned (.bool (decide (x.k = y.k))) ∧ Below w.heap.size w w' := by
 obtain ⟨N, hN⟩ : ∃ N, decide (x.k = y.k) = N := ⟨_, rfl⟩
 rw [hN]
 have sN := Shut.mk hN
 clear hN
 obtain ⟨W, hW⟩ : ∃ W, (w.alloc (.cells #[.int .i64 x.k.h.F, .int .i64 x.k.h.Q, .int .i64 x.k.h.T, .int .i64 x.k.h.L, .int .i64 x.k.h.B, .int .i64 x.k.h.K, .bool x.k.own, .slice x.ca x.k.c.length x.cc, .slice x.ya x.ys.length x.yc, .int .i64 x.k.sh, .int .i64 x.k.gv, .int .i64 x.k.tw, .int .i64 x.k.tr, .slice x.ta x.k.tk.length x.tc, .bool x.k.dl, .bool x.k.pg] 88)).alloc (.cells #[.int .i64 y.k.h.F, .int .i64 y.k.h.Q, .int .i64 y.k.h.T, .int .i64 y.k.h.L, .int .i64 y.k.h.B, .int .i64 y.k.h.K, .bool y.k.own, .slice y.ca y.k.c.length y.cc, .slice y.ya y.ys.length y.yc, .int .i64 y.k.sh, .int .i64 y.k.gv, .int .i64 y.k.tw, .int .i64 y.k.tr, .slice y.ta y.k.tk.length y.tc, .bool y.k.dl, .bool y.k.pg] 88) = W := ⟨_, rfl⟩
 have hB : Below w.heap.size w W := by rw [← hW]; exact ((Below.refl _ _).alloc (Nat.le_refl _) _).alloc (by simp) _
 have hk : W.heap[w.heap.size]? = some (.cells #[.int .i64 x.k.h.F, .int .i64 x.k.h.Q, .int .i64 x.k.h.T, .int .i64 x.k.h.L, .int .i64 x.k.h.B, .int .i64 x.k.h.K, .bool x.k.own, .slice x.ca x.k.c.length x.cc, .slice x.ya x.ys.length x.yc, .int .i64 x.k.sh, .int .i64 x.k.gv, .int .i64 x.k.tw, .int .i64 x.k.tr, .slice x.ta x.k.tk.length x.tc, .bool x.k.dl, .bool x.k.pg] 88 (0, 0)) := by rw [← hW, heap_alloc_eq, if_neg (by simp), heap_alloc_eq, if_pos rfl]
 have hk' : W.heap[w.heap.size + 1]? = some (.cells #[.int .i64 y.k.h.F, .int .i64 y.k.h.Q, .int .i64 y.k.h.T, .int .i64 y.k.h.L, .int .i64 y.k.h.B, .int .i64 y.k.h.K, .bool y.k.own, .slice y.ca y.k.c.length y.cc, .slice y.ya y.ys.length y.yc, .int .i64 y.k.sh, .int .i64 y.k.gv, .int .i64 y.k.tw, .int .i64 y.k.tr, .slice y.ta y.k.tk.length y.tc, .bool y.k.dl, .bool y.k.pg] 88 (0, 0)) := by rw [← hW, heap_alloc_eq, if_pos (by simp)]
 obtain ⟨hx0, hxf⟩ := hx
 obtain ⟨hy0, hyf⟩ := hy
 have hxi := hx0.below hB
 have hyi := hy0.below hB
 have hC := noteBytes_any (w := W) x.ca y.ca x.cc y.cc x.k.c y.k.c hxi.c hyi.c
 have EC : Shut (decide (x.k.c = y.k.c) = true ↔ x.k.c = y.k.c) := ⟨by simp⟩
 generalize decide (x.k.c = y.k.c) = dc at hC EC
 have hY := equalSym_any 84 (enters_of Tryz.func84 (by kernel_rfl) rfl) kSymSame_any x.ya y.ya x.yc y.yc x.ys y.ys W hxf.y hyf.y hxi.y hyi.y hxi.ys hyi.ys
 have EY : Shut (decide (x.ys.map (fun x => MSym.says x) = y.ys.map (fun x => MSym.says x)) = true ↔ x.k.ss = y.k.ss) := ⟨by rw [← hxi.says, ← hyi.says]; simp⟩
 generalize decide (x.ys.map (fun x => MSym.says x) = y.ys.map (fun x => MSym.says x)) = ds at hY EY
 have hxt := hxi.t
 have hyt := hyi.t
 have HK := Shut.mk (And.intro hk hk')
 obtain ⟨q0, q1, q2, q3, q4, q5, q6, q7, q8, q9, q10, q11, q12, q13, q14, q15⟩ := kpCellsK hk
 obtain ⟨s0, s1, s2, s3, s4, s5, s6, s7, s8, s9, s10, s11, s12, s13, s14, s15⟩ := kpCellsK hk'
 have hE := eqlHead x.k.h y.k.h
 simp only [Hd.val] at hE
 have EZ : Shut (decide (x.k.h = y.k.h) = true ↔ x.k.h = y.k.h) := ⟨by simp⟩
 generalize decide (x.k.h = y.k.h) = z at hE EZ
 have no : ¬ (x.k.h = y.k.h ∧ x.k.own = y.k.own ∧ x.k.c = y.k.c ∧ x.k.ss = y.k.ss ∧ x.k.sh = y.k.sh ∧ x.k.gv = y.k.gv ∧ x.k.tw = y.k.tw ∧ x.k.tr = y.k.tr ∧ x.k.tk = y.k.tk ∧ x.k.dl = y.k.dl ∧ x.k.pg = y.k.pg) → Shut (N = false) := fun g => ⟨by rw [← sN.out]; exact decide_eq_false (fun e => g (kpEq.1 e))⟩
 clear hk hk' hx0 hy0 hxi hyi
 subst hW
 go_enter Tryz.func44, Tryz.ntmps44
 cases z with
 | false =>
  have R := no (fun e => absurd (EZ.out.2 e.1) (by simp))
  go_wp2
  go_ret
  exact ⟨by rw [R.out]; rfl, hB⟩
 | true =>
  have E0 := Shut.mk (EZ.out.1 (by trivial))
  clear EZ
  rcases kbq_cases x.k.own y.k.own with ⟨bqown, eown⟩ | ⟨bqown, eown⟩
  ·have E1 := Shut.mk eown
   clear eown
   go_wp2_with fail
   refine hC.mono ?_
   rintro e _ ⟨rfl, rfl⟩
   clear hC
   cases dc with
   | false =>
    have R := no (fun e => absurd (EC.out.2 e.2.2.1) (by simp))
    go_wp2
    go_ret
    exact ⟨by rw [R.out]; rfl, hB⟩
   | true =>
    have E2 := Shut.mk (EC.out.1 (by trivial))
    clear EC
    go_wp2_with fail
    refine hY.mono ?_
    rintro e W1 ⟨rfl, hb⟩
    have hB1 := hB.trans (hb.mono hB.size)
    have hkxW1 := blkB HK.out.1 hb
    have hkyW1 := blkB HK.out.2 hb
    have HT := Shut.mk (And.intro (hxt.below hb (Nat.le_refl _)) (hyt.below hb (Nat.le_refl _)))
    clear hY hb q0 s0 q1 s1 q2 s2 q3 s3 q4 s4 q5 s5 q6 s6 q7 s7 q8 s8 q9 s9 q10 s10 q11 s11 q12 s12 q13 s13 q14 s14 q15 s15
    obtain ⟨q0, q1, q2, q3, q4, q5, q6, q7, q8, q9, q10, q11, q12, q13, q14, q15⟩ := kpCellsK hkxW1
    obtain ⟨s0, s1, s2, s3, s4, s5, s6, s7, s8, s9, s10, s11, s12, s13, s14, s15⟩ := kpCellsK hkyW1
    cases ds with
    | false =>
     have R := no (fun e => absurd (EY.out.2 e.2.2.2.1) (by simp))
     go_wp2
     go_ret
     exact ⟨by rw [R.out]; rfl, hB1⟩
    | true =>
     have E3 := Shut.mk (EY.out.1 (by trivial))
     clear EY
     rcases keq_cases x.k.sh y.k.sh with ⟨bqsh, esh⟩ | ⟨bqsh, esh⟩
     ·have E4 := Shut.mk esh
      clear esh
      rcases keq_cases x.k.gv y.k.gv with ⟨bqgv, egv⟩ | ⟨bqgv, egv⟩
      ·have E5 := Shut.mk egv
       clear egv
       rcases keq_cases x.k.tw y.k.tw with ⟨bqtw, etw⟩ | ⟨bqtw, etw⟩
       ·have E6 := Shut.mk etw
        clear etw
        rcases keq_cases x.k.tr y.k.tr with ⟨bqtr, etr⟩ | ⟨bqtr, etr⟩
        ·have E7 := Shut.mk etr
         clear etr
         have hT := equalTk_any x.ta y.ta x.tc y.tc x.k.tk y.k.tk W1 hxf.t hyf.t HT.out.1 HT.out.2
         have ET : Shut (decide (x.k.tk = y.k.tk) = true ↔ x.k.tk = y.k.tk) := ⟨by simp⟩
         generalize decide (x.k.tk = y.k.tk) = dt at hT ET
         go_wp2_with fail
         refine hT.mono ?_
         rintro e W2 ⟨rfl, hb⟩
         have hB2 := hB1.trans (hb.mono hB1.size)
         have hkxW2 := blkB hkxW1 hb
         have hkyW2 := blkB hkyW1 hb
         clear hT hb q0 s0 q1 s1 q2 s2 q3 s3 q4 s4 q5 s5 q6 s6 q7 s7 q8 s8 q9 s9 q10 s10 q11 s11 q12 s12 q13 s13 q14 s14 q15 s15
         obtain ⟨q0, q1, q2, q3, q4, q5, q6, q7, q8, q9, q10, q11, q12, q13, q14, q15⟩ := kpCellsK hkxW2
         obtain ⟨s0, s1, s2, s3, s4, s5, s6, s7, s8, s9, s10, s11, s12, s13, s14, s15⟩ := kpCellsK hkyW2
         cases dt with
         | false =>
          have R := no (fun e => absurd (ET.out.2 e.2.2.2.2.2.2.2.2.1) (by simp))
          go_wp2
          go_ret
          exact ⟨by rw [R.out]; rfl, hB2⟩
         | true =>
          have E8 := Shut.mk (ET.out.1 (by trivial))
          clear ET
          rcases kbq_cases x.k.dl y.k.dl with ⟨bqdl, edl⟩ | ⟨bqdl, edl⟩
          ·have E9 := Shut.mk edl
           clear edl
           rcases kbq_cases x.k.pg y.k.pg with ⟨bqpg, epg⟩ | ⟨bqpg, epg⟩
           ·have E10 := Shut.mk epg
            clear epg
            have R : Shut (N = true) := ⟨by rw [← sN.out]; exact decide_eq_true (kpEq.2 ⟨E0.out, E1.out, E2.out, E3.out, E4.out, E5.out, E6.out, E7.out, E8.out, E9.out, E10.out⟩)⟩
            go_wp2
            go_ret
            exact ⟨by rw [R.out]; rfl, hB2⟩
           ·have E10 := Shut.mk epg
            clear epg
            have R := no (fun e => E10.out e.2.2.2.2.2.2.2.2.2.2)
            go_wp2
            go_ret
            exact ⟨by rw [R.out]; rfl, hB2⟩
          ·have E9 := Shut.mk edl
           clear edl
           have R := no (fun e => E9.out e.2.2.2.2.2.2.2.2.2.1)
           go_wp2
           go_ret
           exact ⟨by rw [R.out]; rfl, hB2⟩
        ·have E7 := Shut.mk etr
         clear etr
         have R := no (fun e => E7.out e.2.2.2.2.2.2.2.1)
         go_wp2
         go_ret
         exact ⟨by rw [R.out]; rfl, hB1⟩
       ·have E6 := Shut.mk etw
        clear etw
        have R := no (fun e => E6.out e.2.2.2.2.2.2.1)
        go_wp2
        go_ret
        exact ⟨by rw [R.out]; rfl, hB1⟩
      ·have E5 := Shut.mk egv
       clear egv
       have R := no (fun e => E5.out e.2.2.2.2.2.1)
       go_wp2
       go_ret
       exact ⟨by rw [R.out]; rfl, hB1⟩
     ·have E4 := Shut.mk esh
      clear esh
      have R := no (fun e => E4.out e.2.2.2.2.1)
      go_wp2
      go_ret
      exact ⟨by rw [R.out]; rfl, hB1⟩
  ·have E1 := Shut.mk eown
   clear eown
   have R := no (fun e => E1.out e.2.1)
   go_wp2
   go_ret
   exact ⟨by rw [R.out]; rfl, hB⟩

set_option maxHeartbeats 4000000 in
set_option maxRecDepth 16000 in
theorem equalKp_anyR5 (x : MKp) (b o k n c : Nat) (u0 u1 u2 u3 u4 u5 u6 u7 u8 u9 u10 u11 u12 u13 u14 u16 u18 u19 u20 u21 u22 u23 u24 u25 u26 u27 u28 u29 u30 u31 : Value) (w : World) (Q : Exit → Act → World → Prop) (hk : k < n) (hx : Shut (∀ (j : Nat) (v : Value), [.int .i64 x.k.h.F, .int .i64 x.k.h.Q, .int .i64 x.k.h.T, .int .i64 x.k.h.L, .int .i64 x.k.h.B, .int .i64 x.k.h.K, .bool x.k.own, .slice x.ca x.k.c.length x.cc, .slice x.ya x.ys.length x.yc, .int .i64 x.k.sh, .int .i64 x.k.gv, .int .i64 x.k.tw, .int .i64 x.k.tr, .slice x.ta x.k.tk.length x.tc, .bool x.k.dl, .bool x.k.pg][j]? = some v → w.cell? ⟨b, o + k * 16 + j, none⟩ = some v))
  (hQ : Shut (∀ v19 v20 v21 : Value, Q .normal ⟨#[u0, u1, u2, u3, u4, u5, u6, .int .i64 (k : Int), .pointer (some ⟨w.heap.size, 0, none⟩), u9, u10, u11, u12, u13, u14, .slice (some ⟨b, o, none⟩) n c, u16, .int .i64 (k : Int), u18, v19, v20, v21, u22, u23, u24, u25, u26, u27, u28, u29, u30, u31], []⟩ (w.alloc (.cells #[.int .i64 x.k.h.F, .int .i64 x.k.h.Q, .int .i64 x.k.h.T, .int .i64 x.k.h.L, .int .i64 x.k.h.B, .int .i64 x.k.h.K, .bool x.k.own, .slice x.ca x.k.c.length x.cc, .slice x.ya x.ys.length x.yc, .int .i64 x.k.sh, .int .i64 x.k.gv, .int .i64 x.k.tw, .int .i64 x.k.tr, .slice x.ta x.k.tk.length x.tc, .bool x.k.dl, .bool x.k.pg] 88)))) :
  Code.wp Tryz.prog (Code.region 5 #[{ dst := some 19, op := Op.move (Operand.tmp 17), type := 3, pos := "slices.go:41", after := #[], guard := none }, { dst := some 20, op := Op.indexAddr 23 (Operand.tmp 15) (Operand.tmp 17), type := 0, pos := "slices.go:41", after := #[], guard := none }, { dst := some 21, op := Op.load 88 (Operand.tmp 20), type := 88, pos := "slices.go:41", after := #[{ on := 1, ground := Ground.data }], guard := none }, { dst := some 8, op := Op.alloc 88, type := 0, pos := "slices.go:41", after := #[], guard := none }, { dst := some 7, op := Op.assign (Operand.tmp 19), type := 3, pos := "slices.go:41", after := #[{ on := 0, ground := Ground.data }, { on := 0, ground := Ground.phase }, { on := 1, ground := Ground.phase }, { on := 2, ground := Ground.phase }, { on := 3, ground := Ground.phase }], guard := none }, { dst := none, op := Op.store 88 (Operand.tmp 8) (Operand.tmp 21), type := 0, pos := "slices.go:41", after := #[{ on := 3, ground := Ground.data }, { on := 2, ground := Ground.data }, { on := 4, ground := Ground.chain }, { on := 0, ground := Ground.phase }, { on := 1, ground := Ground.phase }, { on := 2, ground := Ground.phase }, { on := 3, ground := Ground.phase }, { on := 4, ground := Ground.phase }], guard := none }] false) Q ⟨#[u0, u1, u2, u3, u4, u5, u6, u7, u8, u9, u10, u11, u12, u13, u14, .slice (some ⟨b, o, none⟩) n c, u16, .int .i64 (k : Int), u18, u19, u20, u21, u22, u23, u24, u25, u26, u27, u28, u29, u30, u31], []⟩ w := by
 have p0 : w.cell? ⟨b, o + k * 16, none⟩ = some (.int .i64 x.k.h.F) := hx.out 0 _ rfl
 have p1 : w.cell? ⟨b, o + k * 16 + 1, none⟩ = some (.int .i64 x.k.h.Q) := hx.out 1 _ rfl
 have p2 : w.cell? ⟨b, o + k * 16 + 2, none⟩ = some (.int .i64 x.k.h.T) := hx.out 2 _ rfl
 have p3 : w.cell? ⟨b, o + k * 16 + 3, none⟩ = some (.int .i64 x.k.h.L) := hx.out 3 _ rfl
 have p4 : w.cell? ⟨b, o + k * 16 + 4, none⟩ = some (.int .i64 x.k.h.B) := hx.out 4 _ rfl
 have p5 : w.cell? ⟨b, o + k * 16 + 5, none⟩ = some (.int .i64 x.k.h.K) := hx.out 5 _ rfl
 have p6 : w.cell? ⟨b, o + k * 16 + 6, none⟩ = some (.bool x.k.own) := hx.out 6 _ rfl
 have p7 : w.cell? ⟨b, o + k * 16 + 7, none⟩ = some (.slice x.ca x.k.c.length x.cc) := hx.out 7 _ rfl
 have p8 : w.cell? ⟨b, o + k * 16 + 8, none⟩ = some (.slice x.ya x.ys.length x.yc) := hx.out 8 _ rfl
 have p9 : w.cell? ⟨b, o + k * 16 + 9, none⟩ = some (.int .i64 x.k.sh) := hx.out 9 _ rfl
 have p10 : w.cell? ⟨b, o + k * 16 + 10, none⟩ = some (.int .i64 x.k.gv) := hx.out 10 _ rfl
 have p11 : w.cell? ⟨b, o + k * 16 + 11, none⟩ = some (.int .i64 x.k.tw) := hx.out 11 _ rfl
 have p12 : w.cell? ⟨b, o + k * 16 + 12, none⟩ = some (.int .i64 x.k.tr) := hx.out 12 _ rfl
 have p13 : w.cell? ⟨b, o + k * 16 + 13, none⟩ = some (.slice x.ta x.k.tk.length x.tc) := hx.out 13 _ rfl
 have p14 : w.cell? ⟨b, o + k * 16 + 14, none⟩ = some (.bool x.k.dl) := hx.out 14 _ rfl
 have p15 : w.cell? ⟨b, o + k * 16 + 15, none⟩ = some (.bool x.k.pg) := hx.out 15 _ rfl
 have hk1 : (k : Int) < (n : Int) := by omega
 go_wp2
 exact hQ.out _ _ _

set_option maxHeartbeats 4000000 in
set_option maxRecDepth 16000 in
theorem equalKp_anyR6 (x : MKp) (b o k n c : Nat) (u0 u2 u3 u4 u5 u6 u8 u9 u10 u11 u12 u13 u14 u15 u16 u17 u18 u19 u20 u21 u22 u23 u24 u25 u26 u27 u28 u29 u30 u31 : Value) (w : World) (Q : Exit → Act → World → Prop) (hk : k < n) (hx : Shut (∀ (j : Nat) (v : Value), [.int .i64 x.k.h.F, .int .i64 x.k.h.Q, .int .i64 x.k.h.T, .int .i64 x.k.h.L, .int .i64 x.k.h.B, .int .i64 x.k.h.K, .bool x.k.own, .slice x.ca x.k.c.length x.cc, .slice x.ya x.ys.length x.yc, .int .i64 x.k.sh, .int .i64 x.k.gv, .int .i64 x.k.tw, .int .i64 x.k.tr, .slice x.ta x.k.tk.length x.tc, .bool x.k.dl, .bool x.k.pg][j]? = some v → w.cell? ⟨b, o + k * 16 + j, none⟩ = some v))
  (hQ : Shut (∀ v22 v23 v24 v25 : Value, Q .normal ⟨#[u0, .slice (some ⟨b, o, none⟩) n c, u2, u3, u4, u5, u6, .int .i64 (k : Int), u8, .pointer (some ⟨w.heap.size, 0, none⟩), u10, u11, u12, u13, u14, u15, u16, u17, u18, u19, u20, u21, v22, v23, v24, v25, u26, u27, u28, u29, u30, u31], []⟩ (w.alloc (.cells #[.int .i64 x.k.h.F, .int .i64 x.k.h.Q, .int .i64 x.k.h.T, .int .i64 x.k.h.L, .int .i64 x.k.h.B, .int .i64 x.k.h.K, .bool x.k.own, .slice x.ca x.k.c.length x.cc, .slice x.ya x.ys.length x.yc, .int .i64 x.k.sh, .int .i64 x.k.gv, .int .i64 x.k.tw, .int .i64 x.k.tr, .slice x.ta x.k.tk.length x.tc, .bool x.k.dl, .bool x.k.pg] 88)))) :
  Code.wp Tryz.prog (Code.region 6 #[{ dst := some 22, op := Op.move (Operand.tmp 1), type := 23, pos := "slices.go:42", after := #[], guard := none }, { dst := some 23, op := Op.move (Operand.tmp 7), type := 3, pos := "slices.go:42", after := #[], guard := none }, { dst := some 24, op := Op.indexAddr 23 (Operand.tmp 22) (Operand.tmp 23), type := 0, pos := "slices.go:42", after := #[{ on := 0, ground := Ground.data }, { on := 1, ground := Ground.data }], guard := none }, { dst := some 25, op := Op.load 88 (Operand.tmp 24), type := 88, pos := "slices.go:42", after := #[{ on := 2, ground := Ground.data }], guard := none }, { dst := some 9, op := Op.alloc 88, type := 0, pos := "slices.go:42", after := #[], guard := none }, { dst := none, op := Op.store 88 (Operand.tmp 9) (Operand.tmp 25), type := 0, pos := "slices.go:42", after := #[{ on := 4, ground := Ground.data }, { on := 3, ground := Ground.data }, { on := 0, ground := Ground.phase }, { on := 1, ground := Ground.phase }, { on := 2, ground := Ground.phase }, { on := 3, ground := Ground.phase }, { on := 4, ground := Ground.phase }], guard := none }] false) Q ⟨#[u0, .slice (some ⟨b, o, none⟩) n c, u2, u3, u4, u5, u6, .int .i64 (k : Int), u8, u9, u10, u11, u12, u13, u14, u15, u16, u17, u18, u19, u20, u21, u22, u23, u24, u25, u26, u27, u28, u29, u30, u31], []⟩ w := by
 have p0 : w.cell? ⟨b, o + k * 16, none⟩ = some (.int .i64 x.k.h.F) := hx.out 0 _ rfl
 have p1 : w.cell? ⟨b, o + k * 16 + 1, none⟩ = some (.int .i64 x.k.h.Q) := hx.out 1 _ rfl
 have p2 : w.cell? ⟨b, o + k * 16 + 2, none⟩ = some (.int .i64 x.k.h.T) := hx.out 2 _ rfl
 have p3 : w.cell? ⟨b, o + k * 16 + 3, none⟩ = some (.int .i64 x.k.h.L) := hx.out 3 _ rfl
 have p4 : w.cell? ⟨b, o + k * 16 + 4, none⟩ = some (.int .i64 x.k.h.B) := hx.out 4 _ rfl
 have p5 : w.cell? ⟨b, o + k * 16 + 5, none⟩ = some (.int .i64 x.k.h.K) := hx.out 5 _ rfl
 have p6 : w.cell? ⟨b, o + k * 16 + 6, none⟩ = some (.bool x.k.own) := hx.out 6 _ rfl
 have p7 : w.cell? ⟨b, o + k * 16 + 7, none⟩ = some (.slice x.ca x.k.c.length x.cc) := hx.out 7 _ rfl
 have p8 : w.cell? ⟨b, o + k * 16 + 8, none⟩ = some (.slice x.ya x.ys.length x.yc) := hx.out 8 _ rfl
 have p9 : w.cell? ⟨b, o + k * 16 + 9, none⟩ = some (.int .i64 x.k.sh) := hx.out 9 _ rfl
 have p10 : w.cell? ⟨b, o + k * 16 + 10, none⟩ = some (.int .i64 x.k.gv) := hx.out 10 _ rfl
 have p11 : w.cell? ⟨b, o + k * 16 + 11, none⟩ = some (.int .i64 x.k.tw) := hx.out 11 _ rfl
 have p12 : w.cell? ⟨b, o + k * 16 + 12, none⟩ = some (.int .i64 x.k.tr) := hx.out 12 _ rfl
 have p13 : w.cell? ⟨b, o + k * 16 + 13, none⟩ = some (.slice x.ta x.k.tk.length x.tc) := hx.out 13 _ rfl
 have p14 : w.cell? ⟨b, o + k * 16 + 14, none⟩ = some (.bool x.k.dl) := hx.out 14 _ rfl
 have p15 : w.cell? ⟨b, o + k * 16 + 15, none⟩ = some (.bool x.k.pg) := hx.out 15 _ rfl
 have hk1 : (k : Int) < (n : Int) := by omega
 go_wp2
 exact hQ.out _ _ _ _

set_option maxHeartbeats 4000000 in
set_option maxRecDepth 16000 in
theorem equalKp_anyR7 (x y : MKp) (f g1 g2 : Nat) (z : Bool) (eg : ∀ args w, (callFunc f args).run Tryz.prog w = .ok (.enter f args) w) (u0 u1 u3 u4 u5 u6 u7 u10 u11 u12 u13 u14 u15 u16 u17 u18 u19 u20 u21 u22 u23 u24 u25 u26 u27 u28 u29 u30 u31 : Value) (w : World) (Q : Exit → Act → World → Prop)
  (h1 : Shut (w.heap[g1]? = some (.cells #[.int .i64 x.k.h.F, .int .i64 x.k.h.Q, .int .i64 x.k.h.T, .int .i64 x.k.h.L, .int .i64 x.k.h.B, .int .i64 x.k.h.K, .bool x.k.own, .slice x.ca x.k.c.length x.cc, .slice x.ya x.ys.length x.yc, .int .i64 x.k.sh, .int .i64 x.k.gv, .int .i64 x.k.tw, .int .i64 x.k.tr, .slice x.ta x.k.tk.length x.tc, .bool x.k.dl, .bool x.k.pg] 88 (0, 0)))) (h2 : Shut (w.heap[g2]? = some (.cells #[.int .i64 y.k.h.F, .int .i64 y.k.h.Q, .int .i64 y.k.h.T, .int .i64 y.k.h.L, .int .i64 y.k.h.B, .int .i64 y.k.h.K, .bool y.k.own, .slice y.ca y.k.c.length y.cc, .slice y.ya y.ys.length y.yc, .int .i64 y.k.sh, .int .i64 y.k.gv, .int .i64 y.k.tw, .int .i64 y.k.tr, .slice y.ta y.k.tk.length y.tc, .bool y.k.dl, .bool y.k.pg] 88 (0, 0))))
  (hC : Calls Tryz.prog f #[.agg #[.int .i64 x.k.h.F, .int .i64 x.k.h.Q, .int .i64 x.k.h.T, .int .i64 x.k.h.L, .int .i64 x.k.h.B, .int .i64 x.k.h.K, .bool x.k.own, .slice x.ca x.k.c.length x.cc, .slice x.ya x.ys.length x.yc, .int .i64 x.k.sh, .int .i64 x.k.gv, .int .i64 x.k.tw, .int .i64 x.k.tr, .slice x.ta x.k.tk.length x.tc, .bool x.k.dl, .bool x.k.pg], .agg #[.int .i64 y.k.h.F, .int .i64 y.k.h.Q, .int .i64 y.k.h.T, .int .i64 y.k.h.L, .int .i64 y.k.h.B, .int .i64 y.k.h.K, .bool y.k.own, .slice y.ca y.k.c.length y.cc, .slice y.ya y.ys.length y.yc, .int .i64 y.k.sh, .int .i64 y.k.gv, .int .i64 y.k.tw, .int .i64 y.k.tr, .slice y.ta y.k.tk.length y.tc, .bool y.k.dl, .bool y.k.pg]] w fun e w' => e = .returned (.bool z) ∧ Below w.heap.size w w')
  (hQ : Shut (∀ (w' : World) (v26 v27 v28 : Value), Below w.heap.size w w' → Q .normal ⟨#[u0, u1, .func (.func f) #[] #[], u3, u4, u5, u6, u7, .pointer (some ⟨g1, 0, none⟩), .pointer (some ⟨g2, 0, none⟩), u10, u11, u12, u13, u14, u15, u16, u17, u18, u19, u20, u21, u22, u23, u24, u25, v26, v27, v28, .bool z, .bool (!z), u31], []⟩ w')) :
  Code.wp Tryz.prog (Code.region 7 #[{ dst := some 26, op := Op.move (Operand.tmp 2), type := 104, pos := "slices.go:43", after := #[], guard := none }, { dst := some 27, op := Op.load 88 (Operand.tmp 8), type := 88, pos := "slices.go:43", after := #[], guard := none }, { dst := some 28, op := Op.load 88 (Operand.tmp 9), type := 88, pos := "slices.go:43", after := #[], guard := none }, { dst := some 29, op := Op.call { callee := Callee.value (Operand.tmp 26), args := #[Operand.tmp 27, Operand.tmp 28], argTypes := #[88, 88] }, type := 4, pos := "slices.go:43", after := #[{ on := 0, ground := Ground.data }, { on := 1, ground := Ground.data }, { on := 2, ground := Ground.data }], guard := none }, { dst := some 30, op := Op.unOp UnOp.not 4 (Operand.tmp 29), type := 4, pos := "slices.go:43", after := #[{ on := 3, ground := Ground.data }], guard := none }] false) Q ⟨#[u0, u1, .func (.func f) #[] #[], u3, u4, u5, u6, u7, .pointer (some ⟨g1, 0, none⟩), .pointer (some ⟨g2, 0, none⟩), u10, u11, u12, u13, u14, u15, u16, u17, u18, u19, u20, u21, u22, u23, u24, u25, u26, u27, u28, u29, u30, u31], []⟩ w := by
 obtain ⟨p0, p1, p2, p3, p4, p5, p6, p7, p8, p9, p10, p11, p12, p13, p14, p15⟩ := bx16 h1.out
 obtain ⟨q0, q1, q2, q3, q4, q5, q6, q7, q8, q9, q10, q11, q12, q13, q14, q15⟩ := bx16 h2.out
 go_wp2_with fail
 refine hC.mono ?_
 rintro e W3 ⟨rfl, hb⟩
 have R := Shut.mk hb
 clear hC hb h1 h2 p0 q0 p1 q1 p2 q2 p3 q3 p4 q4 p5 q5 p6 q6 p7 q7 p8 q8 p9 q9 p10 q10 p11 q11 p12 q12 p13 q13 p14 q14 p15 q15
 go_wp2
 exact hQ.out _ _ _ _ R.out

set_option maxHeartbeats 4000000 in
set_option maxRecDepth 8000 in
theorem equalKp_any (f : Nat) (eg : ∀ args w, (callFunc f args).run Tryz.prog w = .ok (.enter f args) w)
  (hf : ∀ (x y : MKp) (w : World), KpSame w x → KpSame w y → Calls Tryz.prog f #[.agg #[.int .i64 x.k.h.F, .int .i64 x.k.h.Q, .int .i64 x.k.h.T, .int .i64 x.k.h.L, .int .i64 x.k.h.B, .int .i64 x.k.h.K, .bool x.k.own, .slice x.ca x.k.c.length x.cc, .slice x.ya x.ys.length x.yc, .int .i64 x.k.sh, .int .i64 x.k.gv, .int .i64 x.k.tw, .int .i64 x.k.tr, .slice x.ta x.k.tk.length x.tc, .bool x.k.dl, .bool x.k.pg], .agg #[.int .i64 y.k.h.F, .int .i64 y.k.h.Q, .int .i64 y.k.h.T, .int .i64 y.k.h.L, .int .i64 y.k.h.B, .int .i64 y.k.h.K, .bool y.k.own, .slice y.ca y.k.c.length y.cc, .slice y.ya y.ys.length y.yc, .int .i64 y.k.sh, .int .i64 y.k.gv, .int .i64 y.k.tw, .int .i64 y.k.tr, .slice y.ta y.k.tk.length y.tc, .bool y.k.dl, .bool y.k.pg]] w fun e w' => e = .returned (.bool (decide (MKp.k x = MKp.k y))) ∧ Below w.heap.size w w')
  (a b : Option Addr) (ca cb : Nat) (xl yl : List MKp) (w : World) (hx : xl.length ≤ maxLen) (hy : yl.length ≤ maxLen) (ha : Lies w a (kpCells xl)) (hb : Lies w b (kpCells yl)) (hxa : ∀ y ∈ xl, KpSame w y) (hya : ∀ y ∈ yl, KpSame w y) :
  Calls Tryz.prog 43 #[.slice a xl.length ca, .slice b yl.length cb, .func (.func f) #[] #[]] w fun e w' => e = .returned (.bool (decide (xl.map (fun x => MKp.k x) = yl.map (fun x => MKp.k x)))) ∧ Below w.heap.size w w' := by
 obtain ⟨N, hN⟩ : ∃ N, decide (xl.map (fun x => MKp.k x) = yl.map (fun x => MKp.k x)) = N := ⟨_, rfl⟩
 rw [hN]
 have sN := Shut.mk hN
 have HF := Shut.mk hf
 clear hN hf
 by_cases hl : xl.length = yl.length
 ·obtain ⟨n, hn⟩ : ∃ n, xl.length = n := ⟨_, rfl⟩
  have hn2 : yl.length = n := by omega
  have HL := Shut.mk (And.intro hn (And.intro hn2 (And.intro ha (And.intro hb (And.intro hxa hya)))))
  rw [hn, hn2]
  rw [hn] at hx
  unfold maxLen at hx
  clear hl hn hn2 hy ha hb hxa hya
  go_enter Tryz.func43, Tryz.ntmps43
  go_wp2
  go_loopw [17] (fun i wr => ∃ k : Nat, k ≤ n ∧ i = .int .i64 k ∧ Shut ((xl.map (fun x => MKp.k x)).take k = (yl.map (fun x => MKp.k x)).take k ∧ Below w.heap.size w wr)) (fun i _ => n - (intOf i).toNat)
  case atStart => exact ⟨0, Nat.zero_le _, rfl, ⟨rfl, Below.refl _ _⟩⟩
  case round =>
   obtain ⟨k, hk, rfl, HI⟩ := hrel
   by_cases hlt : k < n
   ·obtain ⟨htk, hbr⟩ := HI.out
    obtain ⟨b1, o1, e1⟩ := HL.out.2.2.1.some (k := 0) (by rw [kpCells_length, HL.out.1]; omega)
    obtain ⟨b2, o2, e2⟩ := HL.out.2.2.2.1.some (k := 0) (by rw [kpCells_length, HL.out.2.1]; omega)
    obtain ⟨x, hxk⟩ : ∃ x, xl[k]? = some x := ⟨_, List.getElem?_eq_getElem (by rw [HL.out.1]; exact hlt)⟩
    obtain ⟨y, hyk⟩ : ∃ y, yl[k]? = some y := ⟨_, List.getElem?_eq_getElem (by rw [HL.out.2.1]; exact hlt)⟩
    have hla := HL.out.2.2.1.below hbr (Nat.le_refl _)
    have hlb := HL.out.2.2.2.1.below hbr (Nat.le_refl _)
    rw [e1] at hla
    rw [e2] at hlb
    have h1 : Shut (∀ (j : Nat) (v : Value), [.int .i64 x.k.h.F, .int .i64 x.k.h.Q, .int .i64 x.k.h.T, .int .i64 x.k.h.L, .int .i64 x.k.h.B, .int .i64 x.k.h.K, .bool x.k.own, .slice x.ca x.k.c.length x.cc, .slice x.ya x.ys.length x.yc, .int .i64 x.k.sh, .int .i64 x.k.gv, .int .i64 x.k.tw, .int .i64 x.k.tr, .slice x.ta x.k.tk.length x.tc, .bool x.k.dl, .bool x.k.pg][j]? = some v → wr.cell? ⟨b1, o1 + k * 16 + j, none⟩ = some v) := ⟨fun j v hv => kp_cell (And.intro hla hxk) j hv⟩
    have HK : Shut ((xl.map (fun x => MKp.k x)).take k = (yl.map (fun x => MKp.k x)).take k ∧ xl[k]? = some x ∧ yl[k]? = some y) := ⟨htk, hxk, hyk⟩
    have HB := Shut.mk hbr
    have HY := Shut.mk hlb
    clear htk hxk hyk HI hla hlb hbr
    rw [e1, e2]
    go_upto_region 5 with fail
    refine equalKp_anyR5 x b1 o1 k n ca _ _ _ _ _ _ _ _ _ _ _ _ _ _ _ _ _ _ _ _ _ _ _ _ _ _ _ _ _ _ wr _ hlt h1 ⟨?_⟩
    intro v19 v20 v21
    generalize hW1 : wr.alloc (.cells #[.int .i64 x.k.h.F, .int .i64 x.k.h.Q, .int .i64 x.k.h.T, .int .i64 x.k.h.L, .int .i64 x.k.h.B, .int .i64 x.k.h.K, .bool x.k.own, .slice x.ca x.k.c.length x.cc, .slice x.ya x.ys.length x.yc, .int .i64 x.k.sh, .int .i64 x.k.gv, .int .i64 x.k.tw, .int .i64 x.k.tr, .slice x.ta x.k.tk.length x.tc, .bool x.k.dl, .bool x.k.pg] 88) = W1
    have hb1 : Below wr.heap.size wr W1 := by rw [← hW1]; exact (Below.refl _ _).alloc (Nat.le_refl _) _
    have hq1 : Shut (W1.heap[wr.heap.size]? = some (.cells #[.int .i64 x.k.h.F, .int .i64 x.k.h.Q, .int .i64 x.k.h.T, .int .i64 x.k.h.L, .int .i64 x.k.h.B, .int .i64 x.k.h.K, .bool x.k.own, .slice x.ca x.k.c.length x.cc, .slice x.ya x.ys.length x.yc, .int .i64 x.k.sh, .int .i64 x.k.gv, .int .i64 x.k.tw, .int .i64 x.k.tr, .slice x.ta x.k.tk.length x.tc, .bool x.k.dl, .bool x.k.pg] 88 (0, 0))) := ⟨by rw [← hW1, heap_alloc_eq, if_pos rfl]⟩
    have hlb1 := HY.out.below hb1 (Nat.le_refl _)
    have h3 : Shut (∀ (j : Nat) (v : Value), [.int .i64 y.k.h.F, .int .i64 y.k.h.Q, .int .i64 y.k.h.T, .int .i64 y.k.h.L, .int .i64 y.k.h.B, .int .i64 y.k.h.K, .bool y.k.own, .slice y.ca y.k.c.length y.cc, .slice y.ya y.ys.length y.yc, .int .i64 y.k.sh, .int .i64 y.k.gv, .int .i64 y.k.tw, .int .i64 y.k.tr, .slice y.ta y.k.tk.length y.tc, .bool y.k.dl, .bool y.k.pg][j]? = some v → W1.cell? ⟨b2, o2 + k * 16 + j, none⟩ = some v) := ⟨fun j v hv => kp_cell (And.intro hlb1 HK.out.2.2) j hv⟩
    have HB1 := Shut.mk (HB.out.trans (hb1.mono HB.out.size))
    clear hW1 h1 hb1 hlb1 HY
    go_upto_region 6 with fail
    refine equalKp_anyR6 y b2 o2 k n cb _ _ _ _ _ _ _ _ _ _ _ _ _ _ _ _ _ _ _ _ _ _ _ _ _ _ _ _ _ _ W1 _ hlt h3 ⟨?_⟩
    intro v22 v23 v24 v25
    generalize hW2 : W1.alloc (.cells #[.int .i64 y.k.h.F, .int .i64 y.k.h.Q, .int .i64 y.k.h.T, .int .i64 y.k.h.L, .int .i64 y.k.h.B, .int .i64 y.k.h.K, .bool y.k.own, .slice y.ca y.k.c.length y.cc, .slice y.ya y.ys.length y.yc, .int .i64 y.k.sh, .int .i64 y.k.gv, .int .i64 y.k.tw, .int .i64 y.k.tr, .slice y.ta y.k.tk.length y.tc, .bool y.k.dl, .bool y.k.pg] 88) = W2
    have hb2 : Below W1.heap.size W1 W2 := by rw [← hW2]; exact (Below.refl _ _).alloc (Nat.le_refl _) _
    have hq2 : Shut (W2.heap[W1.heap.size]? = some (.cells #[.int .i64 y.k.h.F, .int .i64 y.k.h.Q, .int .i64 y.k.h.T, .int .i64 y.k.h.L, .int .i64 y.k.h.B, .int .i64 y.k.h.K, .bool y.k.own, .slice y.ca y.k.c.length y.cc, .slice y.ya y.ys.length y.yc, .int .i64 y.k.sh, .int .i64 y.k.gv, .int .i64 y.k.tw, .int .i64 y.k.tr, .slice y.ta y.k.tk.length y.tc, .bool y.k.dl, .bool y.k.pg] 88 (0, 0))) := ⟨by rw [← hW2, heap_alloc_eq, if_pos rfl]⟩
    have hq3 := Shut.mk (blkB hq1.out hb2)
    have hB2 := HB1.out.trans (hb2.mono HB1.out.size)
    have hC := HF.out x y W2 ((HL.out.2.2.2.2.1 x (List.mem_of_getElem? HK.out.2.1)).below hB2) ((HL.out.2.2.2.2.2 y (List.mem_of_getElem? HK.out.2.2)).below hB2)
    have HB2 := Shut.mk hB2
    clear hW2 h3 hb2 hB2 hq1
    obtain ⟨z, hz⟩ : ∃ z, decide (MKp.k x = MKp.k y) = z := ⟨_, rfl⟩
    rw [hz] at hC
    have HZ := Shut.mk hz
    clear hz
    go_upto_region 7 with fail
    refine equalKp_anyR7 x y f wr.heap.size W1.heap.size z eg _ _ _ _ _ _ _ _ _ _ _ _ _ _ _ _ _ _ _ _ _ _ _ _ _ _ _ _ _ W2 _ hq3 hq2 hC ⟨?_⟩
    intro W3 v26 v27 v28 hb3
    have HB3 := Shut.mk (HB2.out.trans (hb3.mono HB2.out.size))
    clear hC hb3 hq2 hq3
    cases z with
    | true =>
     have R : Shut ((xl.map (fun x => MKp.k x)).take (k + 1) = (yl.map (fun x => MKp.k x)).take (k + 1) ∧ Below w.heap.size w W3) := ⟨by
      have hd : MKp.k x = MKp.k y := by simpa using HZ.out
      rw [List.take_add_one, List.take_add_one, HK.out.1, List.getElem?_map, List.getElem?_map, HK.out.2.1, HK.out.2.2]
      simp [hd], HB3.out⟩
     go_wp2
     go_roundw
     case rel => exact ⟨k + 1, by omega, by go_num, R⟩
     case measure => simp [intOf]; omega
    | false =>
     have HD : Shut (N = false) := ⟨by
      have hd : ¬ MKp.k x = MKp.k y := by simpa using HZ.out
      rw [← sN.out]
      refine decide_eq_false fun e => hd ?_
      have h1 : (xl.map (fun x => MKp.k x))[k]? = (yl.map (fun x => MKp.k x))[k]? := by rw [e]
      rw [List.getElem?_map, List.getElem?_map, HK.out.2.1, HK.out.2.2] at h1
      simpa using h1⟩
     go_wp2
     go_ret
     exact ⟨by rw [HD.out]; rfl, HB3.out⟩
   ·have HD : Shut (N = true ∧ Below w.heap.size w wr) := ⟨by
     obtain ⟨htk, hbr⟩ := HI.out
     refine ⟨?_, hbr⟩
     rw [← sN.out]
     refine decide_eq_true ?_
     rw [List.take_of_length_le (by rw [List.length_map, HL.out.1]; omega), List.take_of_length_le (by rw [List.length_map, HL.out.2.1]; omega)] at htk
     exact htk⟩
    clear HI
    go_wp2
    go_ret
    exact ⟨by rw [HD.out.1]; rfl, HD.out.2⟩
 ·have hne : ((xl.length : Int) != (yl.length : Int)) = true := by simp; omega
  have HD : Shut (N = false) := ⟨by rw [← sN.out]; exact decide_eq_false fun e => hl (by have := congrArg List.length e; simpa using this)⟩
  clear hl ha hb
  go_enter Tryz.func43, Tryz.ntmps43
  go_wp2
  go_ret
  exact ⟨by rw [HD.out]; rfl, Below.refl _ _⟩

end Go.Proofs.YtakkajjoeimkdaaGreatDoor
