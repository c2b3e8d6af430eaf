/-
  slices.Equal at integers: the contract of each instance.
-/
import Derived.Test.YtcpnbkgkknlocaaDoorRows
import Derived.Test.YtcpnbkgkknlocaaDoorBase
import Derived.BigQuiet
import Derived.Deep.QuietTactic
namespace Go.Proofs.YtcpnbkgkknlocaaDoor
open Go.RowKit
set_option linter.unusedVariables false
set_option linter.unusedSimpArgs false

theorem take_eq_succ {xs ys : List Int} {k : Nat} (h : xs.take k = ys.take k) (h1 : k < xs.length) (h2 : k < ys.length) (e : xs[k] = ys[k]) : xs.take (k + 1) = ys.take (k + 1) := by
  rw [List.take_succ_eq_append_getElem h1, List.take_succ_eq_append_getElem h2, h, e]

set_option maxHeartbeats 400000 in
theorem equalBytes0 {w : World} (a b : Option Addr) (ca cb : Nat) (xs ys : List Int) (hx : xs.length ≤ maxLen) (hy : ys.length ≤ maxLen)
    (ha : Lies w a (xs.map (Value.int .u8))) (hb : Lies w b (ys.map (Value.int .u8))) :
    Calls Tryd.prog 31 #[.slice a xs.length ca, .slice b ys.length cb] w fun e w' => e = .returned (.bool (decide (xs = ys))) ∧ ∃ n, w' = w.drewN n := by
  unfold maxLen at hx hy
  by_cases hl : xs.length = ys.length
  · have hne : ((xs.length : Int) != (ys.length : Int)) = false := by simp [hl]
    have HL : Hid (xs.length = ys.length) := hl
    have hle : xs.length ≤ ys.length := by omega
    clear hl
    go_enter Tryd.func31, Tryd.ntmps31
    go_wp2
    go_loopw [13] (fun i wr => ∃ k nq : Nat, k ≤ xs.length ∧ i = .int .i64 k ∧ wr = w.drewN nq ∧ xs.take k = ys.take k) (fun i _ => xs.length - (intOf i).toNat)
    case atStart => exact ⟨0, 0, Nat.zero_le _, rfl, rfl, rfl⟩
    case round =>
      obtain ⟨k, nq, hk, rfl, rfl, heq⟩ := hrel
      have HE : Hid (xs.take k = ys.take k) := heq
      clear heq
      by_cases hlt : k < xs.length
      · obtain ⟨b1, o1, rfl⟩ := ha.some (k := k) (by simpa using hlt)
        obtain ⟨b2, o2, rfl⟩ := hb.some (k := k) (by simp; omega)
        have hlt2 : k < ys.length := by omega
        have h1 : w.cell? ⟨b1, o1 + k, none⟩ = some (.int .u8 xs[k]) := ha.at (by simp [hlt])
        have h2 : w.cell? ⟨b2, o2 + k, none⟩ = some (.int .u8 ys[k]) := hb.at (by simp [hlt2])
        clear ha hb
        go_wp2
        go_quiet (fail)
        go_wp2
        · go_ret
          have hd : ¬ xs = ys := fun e => by
            have h : (xs[k] != ys[k]) = true := by assumption
            subst e
            simp at h
          exact ⟨by simp [hd], _, World.drewN_drewN ..⟩
        · have hd : xs[k] = ys[k] := by
            have h : (xs[k] != ys[k]) = false := by assumption
            simpa using h
          go_roundw
          case rel => exact ⟨k + 1, _, by omega, by go_num, rfl, take_eq_succ HE.out hlt hlt2 hd⟩
          case measure => simp [intOf]; omega
      · have HD : Hid (xs = ys) := by
          have h := HE.out
          have hL := HL.out
          rw [List.take_of_length_le (by omega), List.take_of_length_le (by omega)] at h
          exact h
        clear ha hb
        go_wp2
        go_ret
        exact ⟨by simp [HD.out], _, rfl⟩
  · have hne : ((xs.length : Int) != (ys.length : Int)) = true := by simp; omega
    have hd : ¬ xs = ys := fun e => hl (by rw [e])
    have HD : Hid (¬ xs = ys) := hd
    clear hd hl ha hb
    go_enter Tryd.func31, Tryd.ntmps31
    go_wp2
    go_ret
    exact ⟨by simp [HD.out], 0, rfl⟩

set_option maxHeartbeats 400000 in
theorem equalBlock0 {w : World} (a b : Option Addr) (ca cb : Nat) (xs ys : List Int) (hx : xs.length ≤ maxLen) (hy : ys.length ≤ maxLen)
    (ha : Lies w a (xs.map (Value.int .u8))) (hb : Lies w b (ys.map (Value.int .u8))) :
    Calls Tryd.prog 30 #[.slice a xs.length ca, .slice b ys.length cb] w fun e w' => e = .returned (.bool (decide (xs = ys))) ∧ ∃ n, w' = w.drewN n := by
  unfold maxLen at hx hy
  by_cases hl : xs.length = ys.length
  · have hne : ((xs.length : Int) != (ys.length : Int)) = false := by simp [hl]
    have HL : Hid (xs.length = ys.length) := hl
    have hle : xs.length ≤ ys.length := by omega
    clear hl
    go_enter Tryd.func30, Tryd.ntmps30
    go_wp2
    go_loopw [13] (fun i wr => ∃ k nq : Nat, k ≤ xs.length ∧ i = .int .i64 k ∧ wr = w.drewN nq ∧ xs.take k = ys.take k) (fun i _ => xs.length - (intOf i).toNat)
    case atStart => exact ⟨0, 0, Nat.zero_le _, rfl, rfl, rfl⟩
    case round =>
      obtain ⟨k, nq, hk, rfl, rfl, heq⟩ := hrel
      have HE : Hid (xs.take k = ys.take k) := heq
      clear heq
      by_cases hlt : k < xs.length
      · obtain ⟨b1, o1, rfl⟩ := ha.some (k := k) (by simpa using hlt)
        obtain ⟨b2, o2, rfl⟩ := hb.some (k := k) (by simp; omega)
        have hlt2 : k < ys.length := by omega
        have h1 : w.cell? ⟨b1, o1 + k, none⟩ = some (.int .u8 xs[k]) := ha.at (by simp [hlt])
        have h2 : w.cell? ⟨b2, o2 + k, none⟩ = some (.int .u8 ys[k]) := hb.at (by simp [hlt2])
        clear ha hb
        go_wp2
        go_quiet (fail)
        go_wp2
        · go_ret
          have hd : ¬ xs = ys := fun e => by
            have h : (xs[k] != ys[k]) = true := by assumption
            subst e
            simp at h
          exact ⟨by simp [hd], _, World.drewN_drewN ..⟩
        · have hd : xs[k] = ys[k] := by
            have h : (xs[k] != ys[k]) = false := by assumption
            simpa using h
          go_roundw
          case rel => exact ⟨k + 1, _, by omega, by go_num, rfl, take_eq_succ HE.out hlt hlt2 hd⟩
          case measure => simp [intOf]; omega
      · have HD : Hid (xs = ys) := by
          have h := HE.out
          have hL := HL.out
          rw [List.take_of_length_le (by omega), List.take_of_length_le (by omega)] at h
          exact h
        clear ha hb
        go_wp2
        go_ret
        exact ⟨by simp [HD.out], _, rfl⟩
  · have hne : ((xs.length : Int) != (ys.length : Int)) = true := by simp; omega
    have hd : ¬ xs = ys := fun e => hl (by rw [e])
    have HD : Hid (¬ xs = ys) := hd
    clear hd hl ha hb
    go_enter Tryd.func30, Tryd.ntmps30
    go_wp2
    go_ret
    exact ⟨by simp [HD.out], 0, rfl⟩

theorem bs_map (l : List UInt8) : bs l = (l.map fun x => (x.toNat : Int)).map (Value.int .u8) := by simp [bs]

theorem nats_inj {l m : List UInt8} : (l.map fun x => (x.toNat : Int)) = (m.map fun x => (x.toNat : Int)) ↔ l = m := by
  constructor
  · intro h
    have : ∀ (l m : List UInt8), (l.map fun x => (x.toNat : Int)) = (m.map fun x => (x.toNat : Int)) → l = m := by
      intro l
      induction l with
      | nil => intro m h; cases m <;> simp_all
      | cons x l ih =>
        intro m h
        cases m with
        | nil => simp at h
        | cons y m =>
          simp only [List.map_cons, List.cons.injEq] at h
          rw [ih m h.2]
          have : x = y := UInt8.toNat_inj.1 (by omega)
          rw [this]
    exact this l m h
  · intro h; rw [h]

theorem equalBytes {w : World} (a b : Option Addr) (ca cb : Nat) (xs ys : List UInt8) (hx : xs.length ≤ maxLen) (hy : ys.length ≤ maxLen)
    (ha : Lies w a (bs xs)) (hb : Lies w b (bs ys)) :
    Calls Tryd.prog 31 #[.slice a xs.length ca, .slice b ys.length cb] w fun e w' => e = .returned (.bool (decide (xs = ys))) ∧ ∃ n, w' = w.drewN n := by
  have h := equalBytes0 (w := w) a b ca cb (xs.map fun x => (x.toNat : Int)) (ys.map fun x => (x.toNat : Int)) (by simpa using hx) (by simpa using hy) (by rw [← bs_map]; exact ha) (by rw [← bs_map]; exact hb)
  simp only [List.length_map, nats_inj] at h
  exact h

theorem equalBlock {w : World} (a b : Option Addr) (ca cb : Nat) (xs ys : List UInt8) (hx : xs.length ≤ maxLen) (hy : ys.length ≤ maxLen)
    (ha : Lies w a (bs xs)) (hb : Lies w b (bs ys)) :
    Calls Tryd.prog 30 #[.slice a xs.length ca, .slice b ys.length cb] w fun e w' => e = .returned (.bool (decide (xs = ys))) ∧ ∃ n, w' = w.drewN n := by
  have h := equalBlock0 (w := w) a b ca cb (xs.map fun x => (x.toNat : Int)) (ys.map fun x => (x.toNat : Int)) (by simpa using hx) (by simpa using hy) (by rw [← bs_map]; exact ha) (by rw [← bs_map]; exact hb)
  simp only [List.length_map, nats_inj] at h
  exact h

end Go.Proofs.YtcpnbkgkknlocaaDoor
