import Derived.Test.YtekdigbdfeamkaaGreatDoorRows
import Derived.Test.YtekdigbdfeamkaaGreatDoorPart1
import Derived.BigQuiet
import Derived.Deep.QuietTactic
import Derived.Test.YtekdigbdfeamkaaGreatDoorPart7
import Derived.Test.YtekdigbdfeamkaaGreatDoorPart3
import Derived.Laws.BytesString
import Derived.Laws.Cells
import Derived.Test.YtekdigbdfeamkaaGreatDoorPart4
/-
  slices.Equal at integers: the contract of each instance.
-/
namespace Go.Proofs.YtekdigbdfeamkaaGreatDoor
open Go.RowKit
set_option linter.unusedVariables false
set_option linter.unusedSimpArgs false

theorem take_eq_succ {xs ys : List Int} {k : Nat} (h : xs.take k = ys.take k) (h1 : k < xs.length) (h2 : k < ys.length) (e : xs[k] = ys[k]) : xs.take (k + 1) = ys.take (k + 1) := by
  rw [List.take_succ_eq_append_getElem h1, List.take_succ_eq_append_getElem h2, h, e]

set_option maxHeartbeats 400000 in
theorem equalBytes0 {w : World} (a b : Option Addr) (ca cb : Nat) (xs ys : List Int) (hx : xs.length ≤ maxLen) (hy : ys.length ≤ maxLen)
    (ha : Lies w a (xs.map (Value.int .u8))) (hb : Lies w b (ys.map (Value.int .u8))) :
    Calls Tryz.prog 25 #[.slice a xs.length ca, .slice b ys.length cb] w fun e w' => e = .returned (.bool (decide (xs = ys))) ∧ ∃ n, w' = w.drewN n := by
  unfold maxLen at hx hy
  by_cases hl : xs.length = ys.length
  · have hne : ((xs.length : Int) != (ys.length : Int)) = false := by simp [hl]
    have HL : Hid (xs.length = ys.length) := hl
    have hle : xs.length ≤ ys.length := by omega
    clear hl
    go_enter Tryz.func25, Tryz.ntmps25
    go_wp2
    go_loopw [13] (fun i wr => ∃ k nq : Nat, k ≤ xs.length ∧ i = .int .i64 k ∧ wr = w.drewN nq ∧ xs.take k = ys.take k) (fun i _ => xs.length - (intOf i).toNat)
    case atStart => exact ⟨0, 0, Nat.zero_le _, rfl, rfl, rfl⟩
    case round =>
      obtain ⟨k, nq, hk, rfl, rfl, heq⟩ := hrel
      have HE : Hid (xs.take k = ys.take k) := heq
      clear heq
      by_cases hlt : k < xs.length
      · obtain ⟨b1, o1, rfl⟩ := ha.some (k := k) (by simpa using hlt)
        obtain ⟨b2, o2, rfl⟩ := hb.some (k := k) (by simp; omega)
        have hlt2 : k < ys.length := by omega
        have h1 : w.cell? ⟨b1, o1 + k, none⟩ = some (.int .u8 xs[k]) := ha.at (by simp [hlt])
        have h2 : w.cell? ⟨b2, o2 + k, none⟩ = some (.int .u8 ys[k]) := hb.at (by simp [hlt2])
        clear ha hb
        go_wp2
        go_quiet (fail)
        go_wp2
        · go_ret
          have hd : ¬ xs = ys := fun e => by
            have h : (xs[k] != ys[k]) = true := by assumption
            subst e
            simp at h
          exact ⟨by simp [hd], _, World.drewN_drewN ..⟩
        · have hd : xs[k] = ys[k] := by
            have h : (xs[k] != ys[k]) = false := by assumption
            simpa using h
          go_roundw
          case rel => exact ⟨k + 1, _, by omega, by go_num, rfl, take_eq_succ HE.out hlt hlt2 hd⟩
          case measure => simp [intOf]; omega
      · have HD : Hid (xs = ys) := by
          have h := HE.out
          have hL := HL.out
          rw [List.take_of_length_le (by omega), List.take_of_length_le (by omega)] at h
          exact h
        clear ha hb
        go_wp2
        go_ret
        exact ⟨by simp [HD.out], _, rfl⟩
  · have hne : ((xs.length : Int) != (ys.length : Int)) = true := by simp; omega
    have hd : ¬ xs = ys := fun e => hl (by rw [e])
    have HD : Hid (¬ xs = ys) := hd
    clear hd hl ha hb
    go_enter Tryz.func25, Tryz.ntmps25
    go_wp2
    go_ret
    exact ⟨by simp [HD.out], 0, rfl⟩

set_option maxHeartbeats 400000 in
theorem equalBlock0 {w : World} (a b : Option Addr) (ca cb : Nat) (xs ys : List Int) (hx : xs.length ≤ maxLen) (hy : ys.length ≤ maxLen)
    (ha : Lies w a (xs.map (Value.int .u8))) (hb : Lies w b (ys.map (Value.int .u8))) :
    Calls Tryz.prog 29 #[.slice a xs.length ca, .slice b ys.length cb] w fun e w' => e = .returned (.bool (decide (xs = ys))) ∧ ∃ n, w' = w.drewN n := by
  unfold maxLen at hx hy
  by_cases hl : xs.length = ys.length
  · have hne : ((xs.length : Int) != (ys.length : Int)) = false := by simp [hl]
    have HL : Hid (xs.length = ys.length) := hl
    have hle : xs.length ≤ ys.length := by omega
    clear hl
    go_enter Tryz.func29, Tryz.ntmps29
    go_wp2
    go_loopw [13] (fun i wr => ∃ k nq : Nat, k ≤ xs.length ∧ i = .int .i64 k ∧ wr = w.drewN nq ∧ xs.take k = ys.take k) (fun i _ => xs.length - (intOf i).toNat)
    case atStart => exact ⟨0, 0, Nat.zero_le _, rfl, rfl, rfl⟩
    case round =>
      obtain ⟨k, nq, hk, rfl, rfl, heq⟩ := hrel
      have HE : Hid (xs.take k = ys.take k) := heq
      clear heq
      by_cases hlt : k < xs.length
      · obtain ⟨b1, o1, rfl⟩ := ha.some (k := k) (by simpa using hlt)
        obtain ⟨b2, o2, rfl⟩ := hb.some (k := k) (by simp; omega)
        have hlt2 : k < ys.length := by omega
        have h1 : w.cell? ⟨b1, o1 + k, none⟩ = some (.int .u8 xs[k]) := ha.at (by simp [hlt])
        have h2 : w.cell? ⟨b2, o2 + k, none⟩ = some (.int .u8 ys[k]) := hb.at (by simp [hlt2])
        clear ha hb
        go_wp2
        go_quiet (fail)
        go_wp2
        · go_ret
          have hd : ¬ xs = ys := fun e => by
            have h : (xs[k] != ys[k]) = true := by assumption
            subst e
            simp at h
          exact ⟨by simp [hd], _, World.drewN_drewN ..⟩
        · have hd : xs[k] = ys[k] := by
            have h : (xs[k] != ys[k]) = false := by assumption
            simpa using h
          go_roundw
          case rel => exact ⟨k + 1, _, by omega, by go_num, rfl, take_eq_succ HE.out hlt hlt2 hd⟩
          case measure => simp [intOf]; omega
      · have HD : Hid (xs = ys) := by
          have h := HE.out
          have hL := HL.out
          rw [List.take_of_length_le (by omega), List.take_of_length_le (by omega)] at h
          exact h
        clear ha hb
        go_wp2
        go_ret
        exact ⟨by simp [HD.out], _, rfl⟩
  · have hne : ((xs.length : Int) != (ys.length : Int)) = true := by simp; omega
    have hd : ¬ xs = ys := fun e => hl (by rw [e])
    have HD : Hid (¬ xs = ys) := hd
    clear hd hl ha hb
    go_enter Tryz.func29, Tryz.ntmps29
    go_wp2
    go_ret
    exact ⟨by simp [HD.out], 0, rfl⟩

theorem bs_map (l : List UInt8) : bs l = (l.map fun x => (x.toNat : Int)).map (Value.int .u8) := by simp [bs]

theorem nats_inj {l m : List UInt8} : (l.map fun x => (x.toNat : Int)) = (m.map fun x => (x.toNat : Int)) ↔ l = m := by
  constructor
  · intro h
    have : ∀ (l m : List UInt8), (l.map fun x => (x.toNat : Int)) = (m.map fun x => (x.toNat : Int)) → l = m := by
      intro l
      induction l with
      | nil => intro m h; cases m <;> simp_all
      | cons x l ih =>
        intro m h
        cases m with
        | nil => simp at h
        | cons y m =>
          simp only [List.map_cons, List.cons.injEq] at h
          rw [ih m h.2]
          have : x = y := UInt8.toNat_inj.1 (by omega)
          rw [this]
    exact this l m h
  · intro h; rw [h]

theorem equalBytes {w : World} (a b : Option Addr) (ca cb : Nat) (xs ys : List UInt8) (hx : xs.length ≤ maxLen) (hy : ys.length ≤ maxLen)
    (ha : Lies w a (bs xs)) (hb : Lies w b (bs ys)) :
    Calls Tryz.prog 25 #[.slice a xs.length ca, .slice b ys.length cb] w fun e w' => e = .returned (.bool (decide (xs = ys))) ∧ ∃ n, w' = w.drewN n := by
  have h := equalBytes0 (w := w) a b ca cb (xs.map fun x => (x.toNat : Int)) (ys.map fun x => (x.toNat : Int)) (by simpa using hx) (by simpa using hy) (by rw [← bs_map]; exact ha) (by rw [← bs_map]; exact hb)
  simp only [List.length_map, nats_inj] at h
  exact h

theorem equalBlock {w : World} (a b : Option Addr) (ca cb : Nat) (xs ys : List UInt8) (hx : xs.length ≤ maxLen) (hy : ys.length ≤ maxLen)
    (ha : Lies w a (bs xs)) (hb : Lies w b (bs ys)) :
    Calls Tryz.prog 29 #[.slice a xs.length ca, .slice b ys.length cb] w fun e w' => e = .returned (.bool (decide (xs = ys))) ∧ ∃ n, w' = w.drewN n := by
  have h := equalBlock0 (w := w) a b ca cb (xs.map fun x => (x.toNat : Int)) (ys.map fun x => (x.toNat : Int)) (by simpa using hx) (by simpa using hy) (by rw [← bs_map]; exact ha) (by rw [← bs_map]; exact hb)
  simp only [List.length_map, nats_inj] at h
  exact h

end Go.Proofs.YtekdigbdfeamkaaGreatDoor

/-
  Chapter 7: records held against each other: note.Same and the reference's SameRec.
-/
namespace Go.Proofs.YtekdigbdfeamkaaGreatDoor
open Go.RowKit
set_option linter.unusedVariables false
set_option linter.unusedSimpArgs false

theorem bytesIn_lies {w : World} {a : Option Addr} {l : List UInt8} (h : Lies w a (bs l)) : Lib.BytesIn w a l.length (l.map fun x => (x.toNat : Int)) := by
  intro hn
  obtain ⟨b, off, e, _⟩ := h 0 _ (bs_get l 0 hn)
  refine ⟨b, off, e, fun i hi => ?_⟩
  have h1 := h.lt e i (by rw [bs_length]; exact hi)
  rw [h1]
  simp [bs, hi]

theorem bytesOf_nats (l : List UInt8) : Lib.bytesOf (l.map fun x => (x.toNat : Int)) = l := by
  unfold Lib.bytesOf
  rw [List.map_map]
  conv => rhs; rw [← List.map_id l]
  refine List.map_congr_left fun x _ => ?_
  simp

theorem noteBytes_any {w : World} (a b : Option Addr) (ca cb : Nat) (xs ys : List UInt8) (ha : Lies w a (bs xs)) (hb : Lies w b (bs ys)) :
    Calls Tryz.prog 24 #[.slice a xs.length ca, .slice b ys.length cb] w fun e w' => e = .returned (.bool (decide (xs = ys))) ∧ w = w' := by
  refine (Tryz.bytes_Equal_all a b xs.length ca ys.length cb _ _ w (by simp) (by simp) (bytesIn_lies ha) (bytesIn_lies hb)).mono ?_
  rintro e w' ⟨rfl, rfl⟩
  rw [bytesOf_nats, bytesOf_nats]
  exact ⟨retB (by rw [Bool.eq_iff_iff]; simp), rfl⟩

theorem rc_eq {a b : Rc} (h1 : a.k = b.k) (h2 : a.p = b.p) (h3 : a.n = b.n) (h4 : a.y = b.y) (h5 : a.h = b.h) (h6 : a.id = b.id) (h7 : a.d = b.d) (h8 : a.c = b.c) : a = b := by
  obtain ⟨k, p, n, y, h, id, d, c⟩ := a
  obtain ⟨k', p', n', y', h', id', d', c'⟩ := b
  simp only at h1 h2 h3 h4 h5 h6 h7 h8
  subst h1 h2 h3 h4 h5 h6 h7 h8
  rfl

set_option maxHeartbeats 4000000 in
set_option maxRecDepth 8000 in
theorem sameRec_any (r q : Rc) (da : Option Addr) (dc : Nat) (ca : Option Addr) (cc : Nat) (da' : Option Addr) (dc' : Nat) (ca' : Option Addr) (cc' : Nat) (w : World) (hd : Lies w da (bs r.d)) (hc : Lies w ca (bs r.c)) (hd' : Lies w da' (bs q.d)) (hc' : Lies w ca' (bs q.c)) (ld : r.d.length ≤ maxLen) (lc : r.c.length ≤ maxLen) (ld' : q.d.length ≤ maxLen) (lc' : q.c.length ≤ maxLen) :
    Calls Tryz.prog 17 #[rcV r da dc ca cc, rcV q da' dc' ca' cc'] w fun e w' => e = .returned (.bool (decide (r = q))) ∧ Below w.heap.size w w' := by
  obtain ⟨N, hN⟩ : ∃ N, decide (r = q) = N := ⟨_, rfl⟩
  rw [hN]
  have sN := Shut.mk hN
  clear hN
  obtain ⟨k, p, n, y, h, id, d, c⟩ := r
  obtain ⟨k', p', n', y', h', id', d', c'⟩ := q
  have hE := eqlHead h h'
  simp only at hd hc hd' hc' ld lc ld' lc'
  simp only [rcV]
  obtain ⟨W, hW⟩ : ∃ W, (w.alloc (.cells #[.int .i64 k, .int .i64 p, .int .i64 n, .int .i64 y, .int .i64 h.F, .int .i64 h.Q, .int .i64 h.T, .int .i64 h.L, .int .i64 h.B, .int .i64 h.K, .int .i64 id, .slice da d.length dc, .slice ca c.length cc] 33)).alloc (.cells #[.int .i64 k', .int .i64 p', .int .i64 n', .int .i64 y', .int .i64 h'.F, .int .i64 h'.Q, .int .i64 h'.T, .int .i64 h'.L, .int .i64 h'.B, .int .i64 h'.K, .int .i64 id', .slice da' d'.length dc', .slice ca' c'.length cc'] 33) = W := ⟨_, rfl⟩
  have hBW : Below w.heap.size w W := by rw [← hW]; exact ((Below.refl _ _).alloc (Nat.le_refl _) _).alloc (by simp) _
  have hb1 : W.heap[w.heap.size]? = some (.cells #[.int .i64 k, .int .i64 p, .int .i64 n, .int .i64 y, .int .i64 h.F, .int .i64 h.Q, .int .i64 h.T, .int .i64 h.L, .int .i64 h.B, .int .i64 h.K, .int .i64 id, .slice da d.length dc, .slice ca c.length cc] 33 (0, 0)) := by rw [← hW, heap_alloc_eq, if_neg (by simp), heap_alloc_eq, if_pos rfl]
  have hb2 : W.heap[w.heap.size + 1]? = some (.cells #[.int .i64 k', .int .i64 p', .int .i64 n', .int .i64 y', .int .i64 h'.F, .int .i64 h'.Q, .int .i64 h'.T, .int .i64 h'.L, .int .i64 h'.B, .int .i64 h'.K, .int .i64 id', .slice da' d'.length dc', .slice ca' c'.length cc'] 33 (0, 0)) := by rw [← hW, heap_alloc_eq, if_pos (by simp)]
  replace hd := Lies.below hBW hd (Nat.le_refl _)
  replace hc := Lies.below hBW hc (Nat.le_refl _)
  replace hd' := Lies.below hBW hd' (Nat.le_refl _)
  replace hc' := Lies.below hBW hc' (Nat.le_refl _)
  have q0 : W.cell? ⟨w.heap.size, 0, none⟩ = some (.int .i64 k) := cellB hb1 0 _ rfl
  have s0 : W.cell? ⟨w.heap.size + 1, 0, none⟩ = some (.int .i64 k') := cellB hb2 0 _ rfl
  have q1 : W.cell? ⟨w.heap.size, 1, none⟩ = some (.int .i64 p) := cellB hb1 1 _ rfl
  have s1 : W.cell? ⟨w.heap.size + 1, 1, none⟩ = some (.int .i64 p') := cellB hb2 1 _ rfl
  have q2 : W.cell? ⟨w.heap.size, 2, none⟩ = some (.int .i64 n) := cellB hb1 2 _ rfl
  have s2 : W.cell? ⟨w.heap.size + 1, 2, none⟩ = some (.int .i64 n') := cellB hb2 2 _ rfl
  have q3 : W.cell? ⟨w.heap.size, 3, none⟩ = some (.int .i64 y) := cellB hb1 3 _ rfl
  have s3 : W.cell? ⟨w.heap.size + 1, 3, none⟩ = some (.int .i64 y') := cellB hb2 3 _ rfl
  have q4 : W.cell? ⟨w.heap.size, 4, none⟩ = some (.int .i64 h.F) := cellB hb1 4 _ rfl
  have s4 : W.cell? ⟨w.heap.size + 1, 4, none⟩ = some (.int .i64 h'.F) := cellB hb2 4 _ rfl
  have q5 : W.cell? ⟨w.heap.size, 5, none⟩ = some (.int .i64 h.Q) := cellB hb1 5 _ rfl
  have s5 : W.cell? ⟨w.heap.size + 1, 5, none⟩ = some (.int .i64 h'.Q) := cellB hb2 5 _ rfl
  have q6 : W.cell? ⟨w.heap.size, 6, none⟩ = some (.int .i64 h.T) := cellB hb1 6 _ rfl
  have s6 : W.cell? ⟨w.heap.size + 1, 6, none⟩ = some (.int .i64 h'.T) := cellB hb2 6 _ rfl
  have q7 : W.cell? ⟨w.heap.size, 7, none⟩ = some (.int .i64 h.L) := cellB hb1 7 _ rfl
  have s7 : W.cell? ⟨w.heap.size + 1, 7, none⟩ = some (.int .i64 h'.L) := cellB hb2 7 _ rfl
  have q8 : W.cell? ⟨w.heap.size, 8, none⟩ = some (.int .i64 h.B) := cellB hb1 8 _ rfl
  have s8 : W.cell? ⟨w.heap.size + 1, 8, none⟩ = some (.int .i64 h'.B) := cellB hb2 8 _ rfl
  have q9 : W.cell? ⟨w.heap.size, 9, none⟩ = some (.int .i64 h.K) := cellB hb1 9 _ rfl
  have s9 : W.cell? ⟨w.heap.size + 1, 9, none⟩ = some (.int .i64 h'.K) := cellB hb2 9 _ rfl
  have q10 : W.cell? ⟨w.heap.size, 10, none⟩ = some (.int .i64 id) := cellB hb1 10 _ rfl
  have s10 : W.cell? ⟨w.heap.size + 1, 10, none⟩ = some (.int .i64 id') := cellB hb2 10 _ rfl
  have q11 : W.cell? ⟨w.heap.size, 11, none⟩ = some (.slice da d.length dc) := cellB hb1 11 _ rfl
  have s11 : W.cell? ⟨w.heap.size + 1, 11, none⟩ = some (.slice da' d'.length dc') := cellB hb2 11 _ rfl
  have q12 : W.cell? ⟨w.heap.size, 12, none⟩ = some (.slice ca c.length cc) := cellB hb1 12 _ rfl
  have s12 : W.cell? ⟨w.heap.size + 1, 12, none⟩ = some (.slice ca' c'.length cc') := cellB hb2 12 _ rfl
  obtain ⟨F, Q, T, L, B, K⟩ := h
  obtain ⟨F', Q', T', L', B', K'⟩ := h'
  simp only [Hd.val] at *
  clear hb1 hb2
  generalize hz : decide ((⟨F, Q, T, L, B, K⟩ : Hd) = ⟨F', Q', T', L', B', K'⟩) = z at hE
  go_enter Tryz.func17, Tryz.ntmps17
  cases bbk : (k == k') with
  | false =>
    have ek : Shut (¬ k = k') := ⟨by simpa using bbk⟩
    go_wp2_with fail
    go_ret
    exact ⟨retB (by rw [← sN.out]; exact (decide_eq_false (fun e => ek.out (congrArg Rc.k e))).symm), hBW⟩
  | true =>
    have ek : Shut (k = k') := ⟨by simpa using bbk⟩
    cases bbp : (p == p') with
    | false =>
      have ep : Shut (¬ p = p') := ⟨by simpa using bbp⟩
      go_wp2_with fail
      go_ret
      exact ⟨retB (by rw [← sN.out]; exact (decide_eq_false (fun e => ep.out (congrArg Rc.p e))).symm), hBW⟩
    | true =>
      have ep : Shut (p = p') := ⟨by simpa using bbp⟩
      cases bbn : (n == n') with
      | false =>
        have en : Shut (¬ n = n') := ⟨by simpa using bbn⟩
        go_wp2_with fail
        go_ret
        exact ⟨retB (by rw [← sN.out]; exact (decide_eq_false (fun e => en.out (congrArg Rc.n e))).symm), hBW⟩
      | true =>
        have en : Shut (n = n') := ⟨by simpa using bbn⟩
        cases bby : (y == y') with
        | false =>
          have ey : Shut (¬ y = y') := ⟨by simpa using bby⟩
          go_wp2_with fail
          go_ret
          exact ⟨retB (by rw [← sN.out]; exact (decide_eq_false (fun e => ey.out (congrArg Rc.y e))).symm), hBW⟩
        | true =>
          have ey : Shut (y = y') := ⟨by simpa using bby⟩
          cases bz : z with
          | false =>
            have ez := Shut.mk (of_decide_eq_false (hz.trans bz))
            go_wp2_with fail
            go_ret
            exact ⟨retB (by rw [← sN.out]; exact (decide_eq_false (fun e => ez.out (congrArg Rc.h e))).symm), hBW⟩
          | true =>
            have ez := Shut.mk (of_decide_eq_true (hz.trans bz))
            cases bbid : (id == id') with
            | false =>
              have eid : Shut (¬ id = id') := ⟨by simpa using bbid⟩
              go_wp2_with fail
              go_ret
              exact ⟨retB (by rw [← sN.out]; exact (decide_eq_false (fun e => eid.out (congrArg Rc.id e))).symm), hBW⟩
            | true =>
              have eid : Shut (id = id') := ⟨by simpa using bbid⟩
              go_wp2_with fail
              refine (equalBlock da da' dc dc' d d' ld ld' hd hd').mono ?_
              rintro e _ ⟨rfl, n1, rfl⟩
              have hB1 : Below w.heap.size w (W.drewN n1) := hBW.trans (bdn W n1 _)
              have hBW0 := hBW
              replace hBW := hB1
              replace hc := Lies.below (bdn W n1 W.heap.size) hc (Nat.le_refl _)
              replace hc' := Lies.below (bdn W n1 W.heap.size) hc' (Nat.le_refl _)
              cases hv : decide (d = d') with
              | false =>
                have ed := Shut.mk (of_decide_eq_false hv)
                go_wp2_with fail
                go_ret
                exact ⟨retB (by rw [← sN.out]; exact (decide_eq_false (fun e => ed.out (congrArg Rc.d e))).symm), hBW⟩
              | true =>
                have ed := Shut.mk (of_decide_eq_true hv)
                clear hv
                have t12 : (W.drewN n1).cell? ⟨w.heap.size, 12, none⟩ = some (.slice ca c.length cc) := cellW q12 (bdn W n1 _)
                have t12' : (W.drewN n1).cell? ⟨w.heap.size + 1, 12, none⟩ = some (.slice ca' c'.length cc') := cellW s12 (bdn W n1 _)
                go_wp2_with fail
                refine (equalBytes ca ca' cc cc' c c' lc lc' hc hc').mono ?_
                rintro e _ ⟨rfl, n2, rfl⟩
                replace hBW := hBW0.trans (bdn W (n1 + n2) _)
                cases hv : decide (c = c') with
                | false =>
                  have ec := Shut.mk (of_decide_eq_false hv)
                  go_wp2_with fail
                  go_ret
                  exact ⟨retB (by rw [← sN.out]; exact (decide_eq_false (fun e => ec.out (congrArg Rc.c e))).symm), hBW⟩
                | true =>
                  have ec := Shut.mk (of_decide_eq_true hv)
                  go_wp2_with fail
                  go_ret
                  exact ⟨retB (by rw [← sN.out]; exact (decide_eq_true (rc_eq ek.out ep.out en.out ey.out ez.out eid.out ed.out ec.out)).symm), hBW⟩

end Go.Proofs.YtekdigbdfeamkaaGreatDoor

/-
  Bytes turned into a text, as one step.
-/
namespace Go.Proofs.YtekdigbdfeamkaaGreatDoor
open Go.RowKit
set_option linter.unusedVariables false
set_option linter.unusedSimpArgs false

theorem foldlPush (l : List UInt8) (s : ByteArray) : ((l.map fun x => (x.toNat : Int)).foldl (fun r n => r.push (UInt8.ofNat n.toNat)) s).data.toList = s.data.toList ++ l := by
  induction l generalizing s with
  | nil => simp
  | cons x r ih =>
    simp only [List.map_cons, List.foldl_cons]
    rw [ih]
    simp [ByteArray.push]

theorem convBytes {w : World} {a : Option Addr} {n c : Nat} {l : List UInt8} (h : Lies w a (bs l)) (hl : l.length = n) :
    (convert 22 9 (.slice a n c)).run Tryz.prog w = .ok (.string ⟨l.toArray⟩) w := by
  rw [run_convert_bytes_string w 22 9 5 a n c Tryz.underlying22 Tryz.underlying5 Tryz.underlying9]
  cases a with
  | none =>
    have : l = [] := by
      cases l with
      | nil => rfl
      | cons x r => obtain ⟨_, _, e, _⟩ := h 0 _ (by simp [bs]; rfl); simp at e
    subst this
    simp [Conv.bytesToString, Sem.run_pure]
    rfl
  | some ad =>
    have hlc : (loadCells ad n).run Tryz.prog w = .ok ((l.map fun x => (x.toNat : Int)).map (Value.int .u8)).toArray w := by
      have hh := run_loadCells_list (P := Tryz.prog) w ad ((l.map fun x => (x.toNat : Int)).map (Value.int .u8)) (fun j v hj => by
        obtain ⟨b, off, e, hc⟩ := h j v (by simpa [bs] using hj)
        simp at e
        subst e
        simpa [Addr.add_lit] using hc)
      simpa [hl] using hh
    rw [run_bytesToString w ad n c _ hlc]
    congr 2
    have := foldlPush l ByteArray.empty
    simp at this
    cases hh : ((l.map fun x => (x.toNat : Int)).foldl (fun r n => r.push (UInt8.ofNat n.toNat)) ByteArray.empty) with
    | mk d =>
      rw [hh] at this
      simp at this
      subst this
      simp

end Go.Proofs.YtekdigbdfeamkaaGreatDoor

/-
  Chapter 8: package disk's small parts: bytes.Clone and bytes.IndexByte in the words of this proof; hasRoom, joined.
-/
namespace Go.Proofs.YtekdigbdfeamkaaGreatDoor
open Go.RowKit
set_option linter.unusedVariables false
set_option linter.unusedSimpArgs false

theorem lies_nats {w : World} {a : Addr} {l : List UInt8} (h : Lies w (some a) (bs l)) : ∀ i, i < l.length → w.cell? (a.add i) = some (.int .u8 ((l.map fun x => (x.toNat : Int)).getD i 0)) := by
  intro i hi
  obtain ⟨b, off, e, hc⟩ := h i _ (bs_get l i hi)
  cases e
  rw [Addr.add_lit]
  simpa [hi] using hc

theorem lies_noneD {w : World} {l : List UInt8} (h : Lies w none (bs l)) : l = [] := by
  cases l with
  | nil => rfl
  | cons c r =>
    obtain ⟨b, off, e, _⟩ := h 0 _ (bs_get (c :: r) 0 (by simp))
    cases e

theorem cloneD_any (p : Option Addr) (cp : Nat) (l : List UInt8) (w : World) (hn : l.length ≤ 140737488355328) (h : Lies w p (bs l)) :
    Calls Tryz.prog 20 #[.slice p l.length cp] w fun e w' => (∃ (p' : Option Addr) (cp' : Nat), e = .returned (.slice p' l.length cp') ∧ l.length ≤ cp' ∧ Lies w' p' (bs l) ∧ ∀ b o, p' = some ⟨b, o, none⟩ → w.heap.size ≤ b) ∧ Below w.heap.size w w' := by
  cases p with
  | none =>
    obtain rfl := lies_noneD h
    refine (Tryz.bytes_Clone_nil 0 cp w).mono ?_
    rintro e w' ⟨rfl, rfl⟩
    exact ⟨⟨none, 0, rfl, Nat.le_refl _, Lies.nil _ _, fun b o e => by cases e⟩, Below.refl _ _⟩
  | some a =>
    refine (Tryz.bytes_Clone_at a l.length cp _ w (by simp) hn (lies_nats h)).mono ?_
    rintro e w' ⟨v, rfl, hown, _, hb⟩
    have e1 : (l.map fun x => (x.toNat : Int)).map (Value.int .u8) = bs l := by simp [bs]
    rw [e1] at hown
    obtain ⟨p', cp', rfl, hl, _⟩ := own_lies hown
    have hcp : l.length ≤ cp' := by
      rcases hown.2 with ⟨e, h0⟩ | ⟨g, cap, cur, e, _, _, h1, _⟩
      · rw [h0]; exact Nat.zero_le _
      · cases e; exact h1
    exact ⟨⟨p', cp', rfl, hcp, hl, fun b o e => (hown.lt b (by rw [e]; rfl)).1⟩, hb⟩

theorem indexLF_any (a : Addr) (cp : Nat) (l : List UInt8) (w : World) (h : Lies w (some a) (bs l)) :
    Calls Tryz.prog 52 #[.slice (some a) l.length cp, .int .u8 10] w fun e w' => e = .returned (.int .i64 (Lib.indexByte l 10)) ∧ w = w' := by
  refine (Tryz.bytes_IndexByte_at a l.length cp _ 10 w (by simp) (lies_nats h)).mono ?_
  rintro e w' ⟨rfl, rfl⟩
  rw [bytesOf_nats]
  exact ⟨ret_int (by rw [show (10 : Int).toNat.toUInt8 = 10 from by decide]), rfl⟩

theorem indexLF_none : ∀ {l : List UInt8}, (10 : UInt8) ∉ l → Lib.indexByte l 10 = -1
  | [], _ => rfl
  | c :: l, h => by
    have h1 : ¬ (c == 10) = true := by simp; intro e; exact h (by simp [e])
    rw [Lib.indexByte, if_neg h1, indexLF_none (fun e => h (List.mem_cons_of_mem _ e))]
    rfl

theorem indexLF_hit : ∀ (a r : List UInt8), (10 : UInt8) ∉ a → Lib.indexByte (a ++ 10 :: r) 10 = a.length
  | [], r, _ => by simp [Lib.indexByte]
  | c :: a, r, h => by
    have h1 : ¬ (c == 10) = true := by simp; intro e; exact h (by simp [e])
    rw [List.cons_append, Lib.indexByte, if_neg h1, indexLF_hit a r (fun e => h (List.mem_cons_of_mem _ e))]
    simp

/-- a disk's value -/
def dkV (sa : Option Addr) (sn sc : Nat) (wa : Option Addr) (wn wc : Nat) : Value := .agg #[.slice sa sn sc, .slice wa wn wc]

theorem hasRoom_any (sa : Option Addr) (sn sc : Nat) (wa : Option Addr) (wn wc : Nat) (m : Nat) (w : World) (h1 : sn ≤ 9223372036854775807) (h2 : wn ≤ 9223372036854775807) (h3 : m ≤ 60001) :
    Calls Tryz.prog 19 #[dkV sa sn sc wa wn wc, .int .i64 m] w fun e w' => e = .returned (.bool (decide (sn + wn + m ≤ 60000))) ∧ Below w.heap.size w w' := by
  simp only [dkV]
  have hB : Below w.heap.size w (w.alloc (.cells #[.slice sa sn sc, .slice wa wn wc] 24)) := (Below.refl _ _).alloc (Nat.le_refl _) _
  have hd : decide ((wn : Int) ≤ 60000 - (m : Int) - (sn : Int)) = decide (sn + wn + m ≤ 60000) := by
    rw [decide_eq_decide]; omega
  go_enter Tryz.func19, Tryz.ntmps19
  go_wp2
  go_ret
  exact ⟨rfl, hB⟩

/-- copy of bytes into a row -/
theorem copyL (w : World) (g o dLen dCap : Nat) (p : Option Addr) (sc : Nat) (l : List UInt8) (cur : List Value) (hg : w.heap[g]? = some (.cells cur.toArray 5 (0, 0))) (hl : Lies w p (bs l)) (hd : l.length ≤ dLen) (hfit : o + l.length ≤ cur.length) :
    ∃ W', (Builtin.copy_ #[22, 22] 3 #[.slice (some ⟨g, o, none⟩) dLen dCap, .slice p l.length sc]).run Tryz.prog w = .ok (.int .i64 (l.length : Int)) W' ∧ W'.heap[g]? = some (.cells (cur.take o ++ bs l ++ cur.drop (o + l.length)).toArray 5 (0, 0)) ∧ ∀ B w0, B ≤ g → Below B w0 w → Below B w0 W' := by
  cases p with
  | none =>
    obtain rfl := lies_noneD hl
    refine ⟨w, ?_, by simpa [bs] using hg, fun _ _ _ h => h⟩
    have hs : ((Tryz.prog.info? 5).map (·.size)).isSome = true := by rw [sizeU8]; rfl
    cases hq : Tryz.prog.info? 5 with
    | none => simp [hq] at hs
    | some i => simp [Builtin.copy_, run_underlying Tryz.underlying22, Builtin.lenOf, Builtin.firstCells, sizeOf, typeInfo, hq, storeCells, goInt]
  | some a =>
    have h1 := run_copy_row Tryz.prog w 22 22 3 5 g o dLen dCap a l.length sc cur.toArray 5 (bs l) Tryz.underlying22 sizeU8 hg (by rw [bs_length]; exact (Nat.min_eq_left hd).symm)
      (fun j v hj => by
        obtain ⟨b, off, e, hc⟩ := hl j v hj
        cases e
        rw [Addr.add_lit]
        exact hc) (by simpa [bs_length] using hfit) (bs_one (l := l) rfl)
    rw [bs_length] at h1
    exact ⟨_, h1, setRow_heap w g _ _ _ _ hg, fun B w0 hB hb => below_setRow hb hB _⟩

set_option maxHeartbeats 1000000 in
set_option maxRecDepth 8000 in
theorem joinedD_any (p : Option Addr) (cp : Nat) (x : List UInt8) (q : Option Addr) (cq : Nat) (y : List UInt8) (w : World) (hx : x.length ≤ 60000) (hy : y.length ≤ 60000) (hp : Lies w p (bs x)) (hq : Lies w q (bs y)) :
    Calls Tryz.prog 21 #[.slice p x.length cp, .slice q y.length cq] w fun e w' => (∃ (p' : Option Addr) (c' : Nat), e = .returned (.slice p' (x.length + y.length) c') ∧ x.length + y.length ≤ c' ∧ Lies w' p' (bs (x ++ y)) ∧ ∀ b o, p' = some ⟨b, o, none⟩ → w.heap.size ≤ b) ∧ Below w.heap.size w w' := by
  obtain ⟨n, hn⟩ : ∃ n, x.length + y.length = n := ⟨_, rfl⟩
  have hmk := run_make_row' (P := Tryz.prog) 22 5 (.int .u8 0) 1 Tryz.underlying22 infoU8 rfl .i64 .i64 n (by omega) (by omega)
  have hni : (x.length : Int) + (y.length : Int) = (n : Int) := by omega
  obtain ⟨xn, hxn⟩ : ∃ xn, x.length = xn := ⟨_, rfl⟩
  obtain ⟨yn, hyn⟩ : ∃ yn, y.length = yn := ⟨_, rfl⟩
  rw [hxn, hyn] at hni hn ⊢
  rw [hn]
  go_enter Tryz.func21, Tryz.ntmps21
  have hm0 : (madeCells #[Value.int .u8 0] n) = (List.replicate n (Value.int .u8 0)).toArray := by
    apply Array.ext'
    rw [toList_madeCells_one]
  rw [hm0] at hmk
  go_upto_region 2 with fail
  generalize hW1 : w.alloc (.cells (Array.replicate n (Value.int .u8 0)) 5) = W1
  have hb1 : Below w.heap.size w W1 := by rw [← hW1]; exact (Below.refl _ _).alloc (Nat.le_refl _) _
  have hg1 : W1.heap[w.heap.size]? = some (.cells (List.replicate n (Value.int .u8 0)).toArray 5 (0, 0)) := by rw [← hW1, heap_alloc_eq, if_pos rfl]; simp
  obtain ⟨W2, hc2, hg2, hk2⟩ := copyL W1 w.heap.size 0 n n p cp x _ hg1 (hp.below hb1 (Nat.le_refl _)) (by omega) (by simp; omega)
  rw [hxn] at hc2
  have hb2 := hk2 _ _ (Nat.le_refl _) hb1
  have hcur : List.take 0 (List.replicate n (Value.int .u8 0)) ++ bs x ++ List.drop (0 + x.length) (List.replicate n (Value.int .u8 0)) = bs x ++ List.replicate yn (Value.int .u8 0) := by
    simp
    omega
  rw [hcur] at hg2
  have hq2 := hq.below hb2 (Nat.le_refl _)
  clear hW1 hmk hcur hm0 hg1 hk2
  go_upto_region 3 with fail
  clear hc2
  by_cases hy0 : yn = 0
  · subst hy0
    obtain rfl : y = [] := List.length_eq_zero_iff.1 hyn
    obtain rfl : xn = n := by omega
    obtain ⟨W3, hc3, hg3, hk3⟩ := copyL W2 w.heap.size 0 0 0 q cq [] _ hg2 hq2 (by simp) (by simp)
    have hb3 := hk3 _ _ (Nat.le_refl _) hb2
    simp only [List.length_nil] at hc3
    have hL3 : Lies W3 (some ⟨w.heap.size, 0, none⟩) (bs (x ++ [])) := by
      have := Lies.of_block hg3
      simpa [bs] using this
    go_wp2
    go_ret
    exact ⟨⟨_, _, rfl, by omega, hL3, fun b o e => by cases e; exact Nat.le_refl _⟩, hb3⟩
  · have hne : ¬ n = xn := by omega
    obtain ⟨W3, hc3, hg3, hk3⟩ := copyL W2 w.heap.size xn yn yn q cq y _ hg2 hq2 (by omega) (by simp [bs_length]; omega)
    rw [hyn] at hc3
    have hb3 := hk3 _ _ (Nat.le_refl _) hb2
    have e1 : n - xn = yn := by omega
    have hL3 : Lies W3 (some ⟨w.heap.size, 0, none⟩) (bs (x ++ y)) := by
      have h3 := Lies.of_block hg3
      have e2 : List.take xn (bs x ++ List.replicate yn (Value.int .u8 0)) ++ bs y ++ List.drop (xn + y.length) (bs x ++ List.replicate yn (Value.int .u8 0)) = bs (x ++ y) := by
        rw [List.take_left' (by rw [bs_length, hxn]), List.drop_eq_nil_of_le (by simp [bs_length]; omega)]
        simp [bs]
      rw [e2] at h3
      simpa using h3
    go_wp2
    go_ret
    exact ⟨⟨_, _, rfl, by omega, hL3, fun b o e => by cases e; exact Nat.le_refl _⟩, hb3⟩

end Go.Proofs.YtekdigbdfeamkaaGreatDoor
