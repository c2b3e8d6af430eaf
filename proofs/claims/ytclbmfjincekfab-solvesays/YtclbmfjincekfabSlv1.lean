/-
  The program's small functions of chapter 5: first, fits, holders; slices.Index and slices.Contains at bools: the contract of each.
-/
import Derived.Test.YtclbmfjincekfabRow4
import Derived.Test.YtclbmfjincekfabSlvPure
namespace Go.Proofs.Ytclbmfjincekfab
open Go.RowKit
set_option linter.unusedVariables false
set_option linter.unusedSimpArgs false

theorem indexT_any (a : Option Addr) (cap : Nat) (h : List Bool) (w : World) (hx : h.length ≤ maxLen) (hla : Lies w a (h.map Value.bool)) :
    Calls Try.prog 36 #[.slice a h.length cap, .bool true] w fun e w' => e = .returned (.int .i64 (firstI h)) ∧ w = w' := by
  unfold maxLen at hx
  go_enter Try.func36, Try.ntmps36
  go_wp2
  go_loopw [8] (fun i wr => ∃ k : Nat, k ≤ h.length ∧ i = .int .i64 k ∧ wr = w ∧ Shut (∀ j (hj : j < h.length), j < k → h[j] = false)) (fun i _ => h.length - (intOf i).toNat)
  case atStart => exact ⟨0, Nat.zero_le _, rfl, rfl, ⟨fun j _ hj => by omega⟩⟩
  case round =>
    obtain ⟨k, hk, rfl, rfl, HN⟩ := hrel
    by_cases hlt : k < h.length
    · obtain ⟨b1, o1, rfl⟩ := hla.some (k := k) (by simpa using hlt)
      have c1 : wr.cell? ⟨b1, o1 + k, none⟩ = some (.bool h[k]) := hla.at (by simp [hlt])
      clear hla
      cases hx : h[k]
      · have HN2 : Shut (∀ j (hj : j < h.length), j < k + 1 → h[j] = false) := ⟨fun j hj hjk => by
          by_cases e : j = k
          · subst e; exact hx
          · exact HN.out j hj (by omega)⟩
        rw [hx] at c1
        clear hx HN
        go_wp2
        go_roundw
        case rel => exact ⟨k + 1, by omega, by go_num, trivial, HN2⟩
        case measure => simp [intOf]; omega
      · have HF : Shut (firstI h = k) := ⟨firstI_at hlt hx fun j hj => HN.out j (by omega) hj⟩
        rw [hx] at c1
        clear hx HN
        go_wp2
        go_ret
        exact ⟨ret_int HF.out.symm, rfl⟩
    · have HF : Shut (firstI h = -1) := ⟨firstI_none fun j hj => HN.out j hj (by omega)⟩
      clear hla HN
      go_wp2
      go_ret
      exact ⟨ret_int HF.out.symm, rfl⟩

theorem firstI_mem (h : List Bool) : decide (0 ≤ firstI h) = decide (true ∈ h) := by
  rcases firstI_range h with e | ⟨m, e, hm, ht, _⟩
  · rw [e]
    rw [decide_eq_false (by omega)]
    symm
    refine decide_eq_false fun hm => ?_
    obtain ⟨i, hi, hx⟩ := List.getElem_of_mem hm
    have := (firstI_no (r := (h, []))).1 e i
    rw [LRow.v_has hi] at this
    simp only at this
    rw [hx] at this
    cases this
  · rw [e]
    rw [decide_eq_true (by omega)]
    symm
    refine decide_eq_true ?_
    rw [List.getD_eq_getElem?_getD, List.getElem?_eq_getElem hm] at ht
    simp only [Option.getD_some] at ht
    rw [← ht]
    exact List.getElem_mem hm

theorem containsT_any (a : Option Addr) (cap : Nat) (h : List Bool) (w : World) (hx : h.length ≤ maxLen) (hla : Lies w a (h.map Value.bool)) :
    Calls Try.prog 24 #[.slice a h.length cap, .bool true] w fun e w' => e = .returned (.bool (decide (true ∈ h))) ∧ w = w' := by
  have HM := Shut.mk (firstI_mem h)
  go_enter Try.func24, Try.ntmps24
  go_wp2_with fail
  refine (indexT_any a cap h w hx hla).mono ?_
  rintro e w1 ⟨rfl, rfl⟩
  clear hla hx
  generalize firstI h = q at *
  go_wp2
  all_goals go_ret
  all_goals exact ⟨retB HM.out, rfl⟩

theorem first_any (r : MRow) (w : World) (hr : RowIn w r) : Calls Try.prog 20 #[.agg #[r.hv, r.dv]] w fun e w' => e = .returned (.int .i64 (firstI r.h)) ∧ Below w.heap.size w w' := by
  obtain ⟨h1, h2, h3, h4⟩ := hr
  have hla := h1.alloc (.cells #[r.hv, r.dv] 29)
  have hb : Below w.heap.size w (w.alloc (.cells #[r.hv, r.dv] 29)) := (Below.refl _ _).alloc (Nat.le_refl _) _
  have hI := indexT_any r.ha r.hc r.h _ h3 hla
  clear h1 h2 h4 h3 hla
  unfold MRow.hv at *
  obtain ⟨ha, hc, h, da, dc, d⟩ := r
  simp only at *
  generalize MRow.dv ⟨ha, hc, h, da, dc, d⟩ = dv at *
  go_enter Try.func20, Try.ntmps20
  go_wp2_with fail
  refine hI.mono ?_
  rintro e w1 ⟨rfl, rfl⟩
  obtain ⟨q, hq⟩ : ∃ q, firstI h = q := ⟨_, rfl⟩
  rw [hq]
  have HQ := Shut.mk hq
  clear hI hq
  go_wp2
  go_ret
  exact ⟨ret_int HQ.out.symm, hb⟩

theorem fits_any (B K : Int) (ra : Option Addr) (m rc : Nat) (r : MRow) (w : World) (hr : RowIn w r) :
    Calls Try.prog 18 #[.agg #[.int .i64 B, .int .i64 K, .slice ra m rc], .agg #[r.hv, r.dv]] w fun e w' => e = .returned (.bool (decide ((r.h.length : Int) = B ∧ (r.d.length : Int) = K))) ∧ Below w.heap.size w w' := by
  obtain ⟨_, _, h3, h4⟩ := hr
  obtain ⟨ha, hc, rh, da, dc, rd⟩ := r
  simp only [MRow.hv, MRow.dv] at *
  unfold maxLen at h3 h4
  have hb : Below w.heap.size w ((w.alloc (.cells #[.int .i64 B, .int .i64 K, .slice ra m rc] 24)).alloc (.cells #[.slice ha rh.length hc, .slice da rd.length dc] 29)) := ((Below.refl _ _).alloc (Nat.le_refl _) _).alloc (by simp) _
  by_cases e1 : (rh.length : Int) = B
  · have f1 : ((rh.length : Int) == B) = true := by simpa using e1
    by_cases e2 : (rd.length : Int) = K
    · have f2 : ((rd.length : Int) == K) = true := by simpa using e2
      rw [decide_eq_true ⟨e1, e2⟩]
      clear e1 e2
      go_enter Try.func18, Try.ntmps18
      go_wp2
      go_ret
      exact ⟨rfl, hb⟩
    · have f2 : ((rd.length : Int) == K) = false := by simpa using e2
      rw [decide_eq_false fun hh => e2 hh.2]
      clear e1 e2
      go_enter Try.func18, Try.ntmps18
      go_wp2
      go_ret
      exact ⟨rfl, hb⟩
  · have f1 : ((rh.length : Int) == B) = false := by simpa using e1
    rw [decide_eq_false fun hh => e1 hh.1]
    clear e1
    go_enter Try.func18, Try.ntmps18
    go_wp2
    go_ret
    exact ⟨rfl, hb⟩

theorem holders_any (a : Option Addr) (cap : Nat) (l : List MRow) (c n : Nat) (w : World) (hl : l.length ≤ 25) (ha : Lies w a (rowCells l)) (hall : ∀ r ∈ l, RowIn w r) (hn : ∀ r ∈ l, r.h.length = n) (hc : c < n) (hn2 : n ≤ 24) :
    Calls Try.prog 28 #[.slice a l.length cap, .int .i64 c] w fun e w' => e = .returned (.int .i64 (holdL (l.map MRow.says) c : Nat)) ∧ Below w.heap.size w w' := by
  go_enter Try.func28, Try.ntmps28
  go_wp2
  go_loopw [5, 10] (fun v i wr => ∃ q : Nat, q ≤ l.length ∧ i = .int .i64 q ∧ v = .int .i64 (holdL ((l.map MRow.says).take q) c : Nat) ∧ Below w.heap.size w wr) (fun _ i _ => l.length - (intOf i).toNat)
  case atStart => exact ⟨0, Nat.zero_le _, rfl, rfl, Below.refl _ _⟩
  case round =>
    obtain ⟨q, hq, rfl, rfl, hb⟩ := hrel
    by_cases hlt : q < l.length
    · obtain ⟨b1, o1, rfl⟩ := ha.some (k := 2 * q) (by rw [rowCells_length]; omega)
      obtain ⟨c0, c1⟩ := row_at (ha.below hb (Nat.le_refl _)) hlt
      have hr := (hall _ (List.getElem_mem hlt)).below hb
      have hrn := hn _ (List.getElem_mem hlt)
      have HT : Shut (holdL ((l.map MRow.says).take (q + 1)) c = holdL ((l.map MRow.says).take q) c + if l[q].h.getD c false = true then 1 else 0) := ⟨by
        rw [List.take_succ_eq_append_getElem (by simpa using hlt)]
        unfold holdL
        rw [List.countP_append]
        simp [MRow.says, List.countP_cons]⟩
      have hcl : holdL ((l.map MRow.says).take q) c ≤ 25 := Nat.le_trans List.countP_le_length (by simp; omega)
      generalize l[q]'hlt = R at *
      generalize holdL ((l.map MRow.says).take q) c = cn at *
      obtain ⟨rha, rhc, rh, rda, rdc, rd⟩ := R
      simp only [MRow.hv, MRow.dv] at *
      have bd : Below wr.heap.size wr (wr.alloc (.cells #[.slice rha rh.length rhc, .slice rda rd.length rdc] 29)) := (Below.refl _ _).alloc (Nat.le_refl _) _
      have hcr : c < rh.length := by omega
      obtain ⟨b2, o2, hx⟩ := hr.1.some (k := c) (by simpa using hcr)
      simp only at hx
      subst hx
      have c2 : wr.cell? ⟨b2, o2 + c, none⟩ = some (.bool rh[c]) := hr.1.at (by simp [hcr])
      have HG : Shut (rh.getD c false = rh[c]) := ⟨by rw [List.getD_eq_getElem?_getD, List.getElem?_eq_getElem hcr]; rfl⟩
      have c2' := cellC c2 bd
      rw [HG.out] at HT
      have hb3 := hb.trans (bd.mono hb.size)
      have hr24 : rh.length ≤ 24 := by omega
      clear HG hr ha hall hn c2 hrn
      cases hx : rh[c]
      · rw [hx] at c2' HT
        clear hx
        go_wp2
        go_roundw
        case rel => exact ⟨q + 1, by omega, by go_num, by rw [HT.out]; rfl, hb3⟩
        case measure => simp [intOf]; omega
      · rw [hx] at c2' HT
        clear hx
        go_wp2
        go_roundw
        case rel => exact ⟨q + 1, by omega, by go_num, by rw [HT.out]; go_num, hb3⟩
        case measure => simp [intOf]; omega
    · have HE : Shut (holdL ((l.map MRow.says).take q) c = holdL (l.map MRow.says) c) := ⟨by rw [List.take_of_length_le (by simp; omega)]⟩
      rw [HE.out]
      clear HE ha hall hn
      go_wp2
      go_ret
      exact ⟨rfl, hb⟩

end Go.Proofs.Ytclbmfjincekfab
