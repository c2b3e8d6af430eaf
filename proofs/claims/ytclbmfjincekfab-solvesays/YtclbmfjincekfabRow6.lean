/-
  The reference's AddRow: the search for a row that has a block.
-/
import Derived.Test.YtclbmfjincekfabRow5
import Derived.Shelf.Abstract
namespace Go.Proofs.Ytclbmfjincekfab
open Go.RowKit
set_option linter.unusedVariables false
set_option linter.unusedSimpArgs false

theorem addRow1 (r : MRow) (c n gk : Nat) (w : World) (hr : RowIn w r) (hn : r.h.length = n) (hc : c < n) (hn2 : n ≤ 24) (hk : w.cell? ⟨gk, 0, none⟩ = some (.int .i64 c)) :
    Calls Try.prog 33 #[.agg #[r.hv, r.dv], .pointer (some ⟨gk, 0, none⟩)] w fun e w' => e = .returned (.bool ((LRow.v r.says).has c)) ∧ Below w.heap.size w w' := by
  obtain ⟨h1, h2, h3, h4⟩ := hr
  have hcl : c < r.h.length := by omega
  obtain ⟨b1, o1, hx⟩ := h1.some (k := c) (by simpa using hcl)
  have e : (LRow.v r.says).has c = r.h[c] := LRow.v_has hcl
  rw [e]
  clear e
  obtain ⟨ha, hc', h, da, dc, d⟩ := r
  simp only [MRow.hv, MRow.dv] at *
  subst hx
  have c1 := h1.at (k := c) (u := .bool h[c]) (by simp [hcl])
  have hb : Below w.heap.size w (w.alloc (.cells #[.slice (some ⟨b1, o1, none⟩) h.length hc', .slice da d.length dc] 29)) := (Below.refl _ _).alloc (Nat.le_refl _) _
  obtain ⟨v0, v1⟩ := Box2.mk w (.slice (some ⟨b1, o1, none⟩) h.length hc') (.slice da d.length dc) 29
  have c1' := cellC c1 hb
  have hk' := cellC hk hb
  generalize h[c] = x at *
  have h24 : h.length ≤ 24 := by omega
  clear h1 h2 h3 h4 c1 hk hn hc hn2
  go_enter Try.func33, Try.ntmps33
  go_wp2
  go_ret
  exact ⟨rfl, hb⟩

theorem entersAdd1 : ∀ args w, (callFunc 33 args).run Try.prog w = .ok (.enter 33 args) w := enters_of Try.func33 (by kernel_rfl) rfl

/-- where the first row that has this block is; none: -1 -/
def idx (c : Nat) (l : List MRow) : Int := if l.findIdx (fun r => (LRow.v r.says).has c) < l.length then (l.findIdx (fun r => (LRow.v r.says).has c) : Nat) else -1

theorem idx_at {c : Nat} {l : List MRow} {k : Nat} (hk : k < l.length) (ht : (LRow.v l[k].says).has c = true) (hn : ∀ j (hj : j < k), (LRow.v (l[j]'(by omega)).says).has c = false) : idx c l = k := by
  have e : l.findIdx (fun r => (LRow.v r.says).has c) = k := by
    rw [List.findIdx_eq hk]
    exact ⟨ht, fun j hj => by simpa using hn j hj⟩
  rw [idx, e, if_pos hk]

theorem idx_none {c : Nat} {l : List MRow} (hn : ∀ j (hj : j < l.length), (LRow.v l[j].says).has c = false) : idx c l = -1 := by
  rw [idx, if_neg]
  intro hl
  have := List.findIdx_getElem (w := hl)
  rw [hn _ hl] at this
  simp at this

set_option maxHeartbeats 400000 in
theorem indexRow_any (a : Option Addr) (cap : Nat) (l : List MRow) (c n gk : Nat) (w : World) (hl : l.length ≤ 25) (ha : Lies w a (rowCells l)) (hall : ∀ r ∈ l, RowIn w r) (hn : ∀ r ∈ l, r.h.length = n) (hc : c < n) (hn2 : n ≤ 24) (hk : w.cell? ⟨gk, 0, none⟩ = some (.int .i64 c)) :
    Calls Try.prog 32 #[.slice a l.length cap, .func (.func 33) #[] #[.pointer (some ⟨gk, 0, none⟩)]] w fun e w' => e = .returned (.int .i64 (idx c l)) ∧ Below w.heap.size w w' := by
  have eg := entersAdd1
  go_enter Try.func32, Try.ntmps32
  go_wp2
  go_loopw [8] (fun i wr => ∃ q : Nat, q ≤ l.length ∧ i = .int .i64 q ∧ Below w.heap.size w wr ∧ Shut (∀ j (hj : j < l.length), j < q → (LRow.v l[j].says).has c = false)) (fun i _ => l.length - (intOf i).toNat)
  case atStart => exact ⟨0, Nat.zero_le _, rfl, Below.refl _ _, ⟨fun j _ hj => by omega⟩⟩
  case round =>
    obtain ⟨q, hq, rfl, hb, HN⟩ := hrel
    by_cases hlt : q < l.length
    · obtain ⟨b1, o1, rfl⟩ := ha.some (k := 2 * q) (by rw [rowCells_length]; omega)
      obtain ⟨c0, c1⟩ := row_at (ha.below hb (Nat.le_refl _)) hlt
      have hA := addRow1 l[q] c n gk wr ((hall _ (List.getElem_mem hlt)).below hb) (hn _ (List.getElem_mem hlt)) hc hn2 (cellC hk hb)
      have HT : Shut ((LRow.v l[q].says).has c = true → idx c l = q) := ⟨fun h => idx_at hlt h fun j hj => HN.out j (by omega) hj⟩
      have HF : Shut ((LRow.v l[q].says).has c = false → ∀ j (hj : j < l.length), j < q + 1 → (LRow.v l[j].says).has c = false) := ⟨fun h j hj hjq => by
        by_cases e : j = q
        · subst e; exact h
        · exact HN.out j hj (by omega)⟩
      generalize (LRow.v l[q].says).has c = x at *
      generalize l[q]'hlt = R at *
      obtain ⟨rha, rhc, rh, rda, rdc, rd⟩ := R
      simp only [MRow.hv, MRow.dv] at *
      clear ha hall hn HN
      go_wp2_with fail
      refine hA.mono ?_
      rintro e w2 ⟨rfl, hb2⟩
      have hb3 := hb.trans (hb2.mono hb.size)
      clear hA c0 c1 hb2
      cases x
      · have HN2 := Shut.mk (HF.out rfl)
        clear HF HT
        go_wp2
        go_roundw
        case rel => exact ⟨q + 1, by omega, by go_num, hb3, HN2⟩
        case measure => simp [intOf]; omega
      · have HX := Shut.mk (HT.out rfl)
        clear HF HT
        go_wp2
        go_ret
        exact ⟨ret_int HX.out.symm, hb3⟩
    · have HX : Shut (idx c l = -1) := ⟨idx_none fun j hj => HN.out j hj (by omega)⟩
      clear HN ha
      go_wp2
      go_ret
      exact ⟨ret_int HX.out.symm, hb⟩

end Go.Proofs.Ytclbmfjincekfab
