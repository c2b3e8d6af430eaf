import Derived.Test.YthhhlampphlmgaaPart8
import Derived.Test.YthhhlampphlmgaaPart2
import Derived.Deep.CutBlock
/-
  Chapter 10: package way's Take.
-/
namespace Go.Proofs.Ythhhlampphlmgaa
open Go.RowKit
set_option linter.unusedVariables false
set_option linter.unusedSimpArgs false

theorem mailCells_take (L : List MMl) (i : Nat) (h : i ≤ L.length) : mailCells (L.take i) = (mailCells L).take (13 * i) := by
  have e : mailCells L = mailCells (L.take i) ++ mailCells (L.drop i) := by rw [← mailCells_append, List.take_append_drop]
  rw [e, List.take_left' (by rw [mailCells_length, List.length_take]; omega)]

theorem mailCells_drop (L : List MMl) (i : Nat) (h : i ≤ L.length) : mailCells (L.drop i) = (mailCells L).drop (13 * i) := by
  have e : mailCells L = mailCells (L.take i) ++ mailCells (L.drop i) := by rw [← mailCells_append, List.take_append_drop]
  rw [e, List.drop_left' (by rw [mailCells_length, List.length_take]; omega)]

theorem mailCells_erase (L : List MMl) (i : Nat) (h : i < L.length) : mailCells (L.eraseIdx i) = (mailCells L).take (13 * i) ++ (mailCells L).drop (13 * i + 13) := by
  rw [List.eraseIdx_eq_take_drop_succ, mailCells_append, mailCells_take L i (by omega), mailCells_drop L (i + 1) (by omega), Nat.mul_succ]

/-- what Take says -/
def takeCode (l : List Ml) (k : Int) : Int := if wyCode l ≠ 0 then wyCode l else if k < 0 ∨ (l.length : Int) ≤ k then 5 else 0

/-- what is on its way then -/
def takeL (l : List Ml) (k : Nat) (tw : Bool) : List Ml := if tw = true then l else l.eraseIdx k

theorem ListNew.del {B : Nat} {w w' : World} {l : List Ml} {L : List MMl} {g cp i m : Nat} (h : ListNew B w l L (some ⟨g, 0, none⟩) cp) (hi : l.length = i + 1 + m) (own' : w'.ownsRow B 34 13 (.slice (some ⟨g, 0, none⟩) (i + m) cp) (i + m) ((mailCells L).take (13 * i) ++ (mailCells L).drop (13 * i + 13)))
    (hg : w.grownBy w' (some g)) : ListNew B w' (l.eraseIdx i) (L.eraseIdx i) (some ⟨g, 0, none⟩) cp := by
  have hLl : L.length = l.length := by rw [← h.1, List.length_map]
  have el : (l.eraseIdx i).length = i + m := by rw [List.length_eraseIdx_of_lt (by omega)]; omega
  refine ⟨?_, ?_, ?_⟩
  · rw [← h.1, List.eraseIdx_eq_take_drop_succ, List.eraseIdx_eq_take_drop_succ, List.map_append, List.map_take, List.map_drop]
  · rw [el, mailCells_erase L i (by omega)]
    exact own'
  · intro y hy
    have hy2 := List.mem_of_mem_eraseIdx hy
    have h1 := h.2.2 y hy2
    refine ⟨mailIn_grown (v := .slice (some ⟨g, 0, none⟩) l.length cp) h1.1 hg (fun g' e => ?_), h1.2⟩
    have : g = g' := by simpa [Value.ownBlock] using e
    exact h1.2.2.2 g' (by rw [this])

theorem ListNew.far {b : Nat} {w w' : World} {l : List Ml} {L : List MMl} {p : Option Addr} {cp : Nat} (h : ListNew (b + 1) w l L p cp) (hk : ∀ k, k ≠ b → w'.heap[k]? = w.heap[k]?) (hB : ∀ B u, B ≤ b → Below B u w → Below B u w') : ListNew (b + 1) w' l L p cp := by
  have h0 := hB 0 w (Nat.zero_le _) (Below.refl _ _)
  refine ⟨h.1, h.2.1.kept (row := some b) ⟨h0.os, h0.tape, h0.output, h0.size, fun k _ hne => hk k (fun e => hne (by rw [e]))⟩ (Or.inr ?_), fun y hy => ⟨liesG (h.2.2 y hy).1 hk (fun b' o e => by have := (h.2.2 y hy).2.2.1 b' o e; omega), (h.2.2 y hy).2⟩⟩
  intro e
  have := (h.2.1.lt b e).1
  omega

/-- what Take leaves -/
def TakeR (B : Nat) (w' : World) (l : List Ml) (k : Int) (tw : Bool) (e : Ending) : Prop :=
  (takeCode l k ≠ 0 ∧ e = .returned (.tuple #[.slice none 0 0, .agg #[.int .i64 0, .int .i64 0, .int .i64 0, .int .i64 0, .int .i64 0, .int .i64 0, .int .i64 0, .int .i64 0, .int .i64 0, .int .i64 0, .slice none 0 0, .int .i64 0, .int .i64 0], .int .i64 (takeCode l k)])) ∨
  (takeCode l k = 0 ∧ ∃ (L : List MMl) (p : Option Addr) (cp : Nat) (x : MMl), e = .returned (.tuple #[.slice p (takeL l k.toNat tw).length cp, .agg #[.int .i64 x.m.f, .int .i64 x.m.t, .int .i64 x.m.k, .int .i64 x.m.h.F, .int .i64 x.m.h.Q, .int .i64 x.m.h.T, .int .i64 x.m.h.L, .int .i64 x.m.h.B, .int .i64 x.m.h.K, .int .i64 x.m.id, .slice x.da x.m.d.length x.dc, .int .i64 x.m.n, .int .i64 x.m.y], .int .i64 0]) ∧ (takeL l k.toNat tw).length ≤ cp ∧ ListNew B w' (takeL l k.toNat tw) L p cp ∧ l[k.toNat]? = some x.m ∧ MailIn w' x)

/-- ahead of a call the result's own box is empty -/
theorem takeBad (W : World) (g : Nat) (hr : W.heap[g]? = some (.cells #[.int .i64 0, .int .i64 0, .int .i64 0, .int .i64 0, .int .i64 0, .int .i64 0, .int .i64 0, .int .i64 0, .int .i64 0, .int .i64 0, .slice none 0 0, .int .i64 0, .int .i64 0] 34 (0, 0))) : ∃ W9, (((((((((((((W.setCell ⟨g, 0, none⟩ (.int .i64 0)).setCell ⟨g, 1, none⟩ (.int .i64 0)).setCell ⟨g, 2, none⟩ (.int .i64 0)).setCell ⟨g, 3, none⟩ (.int .i64 0)).setCell ⟨g, 4, none⟩ (.int .i64 0)).setCell ⟨g, 5, none⟩ (.int .i64 0)).setCell ⟨g, 6, none⟩ (.int .i64 0)).setCell ⟨g, 7, none⟩ (.int .i64 0)).setCell ⟨g, 8, none⟩ (.int .i64 0)).setCell ⟨g, 9, none⟩ (.int .i64 0)).setCell ⟨g, 10, none⟩ (.slice none 0 0)).setCell ⟨g, 11, none⟩ (.int .i64 0)).setCell ⟨g, 12, none⟩ (.int .i64 0)) = W9 ∧ W9.heap[g]? = some (.cells #[.int .i64 0, .int .i64 0, .int .i64 0, .int .i64 0, .int .i64 0, .int .i64 0, .int .i64 0, .int .i64 0, .int .i64 0, .int .i64 0, .slice none 0 0, .int .i64 0, .int .i64 0] 34 (0, 0)) ∧ ∀ B w, B ≤ g → Below B w W → Below B w W9 := by
  obtain ⟨W9, h1, h2, _, h4⟩ := box13 W g 34 _ _ _ _ _ _ _ _ _ _ _ _ _ (.int .i64 0) (.int .i64 0) (.int .i64 0) (.int .i64 0) (.int .i64 0) (.int .i64 0) (.int .i64 0) (.int .i64 0) (.int .i64 0) (.int .i64 0) (.slice none 0 0) (.int .i64 0) (.int .i64 0) hr
  exact ⟨W9, h1, h2, h4⟩

theorem zBox {W : World} {g : Nat} (h : W.heap[g]? = some (.cells #[.int .i64 0, .int .i64 0, .int .i64 0, .int .i64 0, .int .i64 0, .int .i64 0, .int .i64 0, .int .i64 0, .int .i64 0, .int .i64 0, .slice none 0 0, .int .i64 0, .int .i64 0] 34 (0, 0))) : W.cell? ⟨g, 0, none⟩ = some (.int .i64 0) ∧ W.cell? ⟨g, 1, none⟩ = some (.int .i64 0) ∧ W.cell? ⟨g, 2, none⟩ = some (.int .i64 0) ∧ W.cell? ⟨g, 3, none⟩ = some (.int .i64 0) ∧ W.cell? ⟨g, 4, none⟩ = some (.int .i64 0) ∧ W.cell? ⟨g, 5, none⟩ = some (.int .i64 0) ∧ W.cell? ⟨g, 6, none⟩ = some (.int .i64 0) ∧ W.cell? ⟨g, 7, none⟩ = some (.int .i64 0) ∧ W.cell? ⟨g, 8, none⟩ = some (.int .i64 0) ∧ W.cell? ⟨g, 9, none⟩ = some (.int .i64 0) ∧ W.cell? ⟨g, 10, none⟩ = some (.slice none 0 0) ∧ W.cell? ⟨g, 11, none⟩ = some (.int .i64 0) ∧ W.cell? ⟨g, 12, none⟩ = some (.int .i64 0) :=
  ⟨cellB h 0 _ rfl, cellB h 1 _ rfl, cellB h 2 _ rfl, cellB h 3 _ rfl, cellB h 4 _ rfl, cellB h 5 _ rfl, cellB h 6 _ rfl, cellB h 7 _ rfl, cellB h 8 _ rfl, cellB h 9 _ rfl, cellB h 10 _ rfl, cellB h 11 _ rfl, cellB h 12 _ rfl⟩

set_option maxHeartbeats 4000000 in
set_option maxRecDepth 8000 in
theorem take_any (a : Option Addr) (l : List MMl) (c : Nat) (k : Int) (tw : Bool) (w : World) (hl : Lies w a (mailCells l)) (hall : ∀ x ∈ l, MailIn w x ∧ MlOk x) (hc : l.length ≤ c) (hm : l.length ≤ maxLen) :
    Calls Try.prog 6 #[.slice a l.length c, .int .i64 k, .bool tw] w fun e w' => TakeR w.heap.size w' (l.map MMl.m) k tw e ∧ Below w.heap.size w w' := by
  obtain ⟨W, hW⟩ : ∃ W, w.alloc (.cells #[.int .i64 0, .int .i64 0, .int .i64 0, .int .i64 0, .int .i64 0, .int .i64 0, .int .i64 0, .int .i64 0, .int .i64 0, .int .i64 0, .slice none 0 0, .int .i64 0, .int .i64 0] 34) = W := ⟨_, rfl⟩
  have hB : Below w.heap.size w W := by rw [← hW]; exact (Below.refl _ _).alloc (Nat.le_refl _) _
  have hk : W.heap[w.heap.size]? = some (.cells #[.int .i64 0, .int .i64 0, .int .i64 0, .int .i64 0, .int .i64 0, .int .i64 0, .int .i64 0, .int .i64 0, .int .i64 0, .int .i64 0, .slice none 0 0, .int .i64 0, .int .i64 0] 34 (0, 0)) := by rw [← hW, heap_alloc_eq, if_pos rfl]
  have hC := wCheck_any a l c W (hl.below hB (Nat.le_refl _)) (fun x hx => (hall x hx).2) hc hm
  obtain ⟨n, hn⟩ : ∃ n, l.length = n := ⟨_, rfl⟩
  have HX := Shut.mk (And.intro hn (And.intro hl hall))
  have HW := Shut.mk hW
  have HS : Shut (takeCode (l.map MMl.m) k = if wyCode (l.map MMl.m) ≠ 0 then wyCode (l.map MMl.m) else if k < 0 ∨ (n : Int) ≤ k then 5 else 0) := ⟨by rw [takeCode, List.length_map, hn]⟩
  have HZ : Shut (wyCode (l.map MMl.m) = 0 → (l.map MMl.m).length ≤ 40 ∧ ∀ m ∈ l.map MMl.m, m.code = 0) := ⟨wy_zero⟩
  rw [hn] at hC hc hm ⊢
  generalize wyCode (l.map MMl.m) = z at hC HS HZ
  clear hW hl hall hn
  go_enter Try.func6, Try.ntmps6
  go_upto_region 1 with fail
  rw [HW.out]
  clear HW
  go_wp2_with fail
  refine hC.mono ?_
  rintro e W1 ⟨rfl, hb⟩
  have hB1 := hB.trans (hb.mono hB.size)
  have hk1 := blkB hk hb
  clear hC hb hk hB
  by_cases hz : z = 0
  · subst hz
    have HS2 : Shut (takeCode (l.map MMl.m) k = if k < 0 ∨ (n : Int) ≤ k then 5 else 0) := ⟨by rw [HS.out, if_neg (by simp)]⟩
    have hn40 : n ≤ 40 := by have := (HZ.out rfl).1; rw [List.length_map, HX.out.1] at this; exact this
    clear HS
    by_cases hkk : k < 0 ∨ (n : Int) ≤ k
    · have R : Shut (takeCode (l.map MMl.m) k ≠ 0 ∧ takeCode (l.map MMl.m) k = 5) := ⟨by rw [HS2.out, if_pos hkk]; exact ⟨by decide, rfl⟩⟩
      obtain ⟨q0, q1, q2, q3, q4, q5, q6, q7, q8, q9, q10, q11, q12⟩ := zBox hk1
      have g0 := frz hk1 0
      have g1 := frz hk1 1
      have g2 := frz hk1 2
      have g3 := frz hk1 3
      have g4 := frz hk1 4
      have g5 := frz hk1 5
      have g6 := frz hk1 6
      have g7 := frz hk1 7
      have g8 := frz hk1 8
      have g9 := frz hk1 9
      have g10 := frz hk1 10
      have g11 := frz hk1 11
      have g12 := frz hk1 12
      clear HS2
      go_wp2
      all_goals first
        | (exfalso; omega)
        | (obtain ⟨W9, hW9, hb9, hB9⟩ := takeBad W1 w.heap.size hk1
           rw [hW9]
           have hF := hB9 _ _ (Nat.le_refl _) hB1
           clear hW9 hB9 q0 q1 q2 q3 q4 q5 q6 q7 q8 q9 q10 q11 q12 g0 g1 g2 g3 g4 g5 g6 g7 g8 g9 g10 g11 g12
           obtain ⟨q0, q1, q2, q3, q4, q5, q6, q7, q8, q9, q10, q11, q12⟩ := zBox hb9
           refine bodyPost_ret (v := .tuple #[.slice none 0 0, .agg #[.int .i64 0, .int .i64 0, .int .i64 0, .int .i64 0, .int .i64 0, .int .i64 0, .int .i64 0, .int .i64 0, .int .i64 0, .int .i64 0, .slice none 0 0, .int .i64 0, .int .i64 0], .int .i64 5]) (by simp [results, Try.results6, go_sem, q0, q1, q2, q3, q4, q5, q6, q7, q8, q9, q10, q11, q12]) rfl ?_
           exact ⟨Or.inl ⟨R.out.1, by rw [R.out.2]⟩, hF⟩)
    · obtain ⟨kn, rfl⟩ : ∃ kn : Nat, k = (kn : Int) := ⟨k.toNat, by omega⟩
      have hkn : kn < n := by omega
      have R0 : Shut (takeCode (l.map MMl.m) (kn : Int) = 0) := ⟨by rw [HS2.out, if_neg hkk]⟩
      clear HS2 hkk
      have hi0 : ¬ (kn : Int) < 0 := by omega
      have hi1 : ¬ (kn : Int) ≥ (n : Int) := by omega
      have hG := listCopy_any a l c W1 (HX.out.2.1.below hB1 (Nat.le_refl _)) (fun x hx => ⟨(HX.out.2.2 x hx).1.below hB1, by
        have := ml_short ((HZ.out (by trivial)).2 x.m (List.mem_map.2 ⟨x, hx, rfl⟩))
        omega⟩) (by rw [HX.out.1]; omega)
      rw [HX.out.1] at hG
      go_wp2_with fail
      refine hG.mono ?_
      rintro e W3 ⟨L, p, cp, rfl, HL⟩
      have hB3 := hB1.trans (HL.out.2.mono hB1.size)
      have hk3 := blkB hk1 HL.out.2
      have HL2 := Shut.mk (HL.out.1.low (B' := w.heap.size + 1) (by have := (Array.getElem?_eq_some_iff.1 hk1).1; omega))
      have hW23 := HL.out.2.size
      clear hG hk1 HL
      obtain ⟨x, hx⟩ : ∃ x, l[kn]? = some x := ⟨_, List.getElem?_eq_getElem (by rw [HX.out.1]; exact hkn)⟩
      have HXX := Shut.mk hx
      have hxs := (HZ.out (by trivial)).2 x.m (List.mem_map.2 ⟨x, List.mem_of_getElem? hx, rfl⟩)
      have hxs2 := ml_short hxs
      have hxi := (HX.out.2.2 x (List.mem_of_getElem? hx)).1
      obtain ⟨b1, o1, rfl⟩ := HX.out.2.1.some (k := 0) (by rw [mailCells_length, HX.out.1]; omega)
      have hkc : kn < c := by omega
      -- the list that is left, whatever it is
      have rest : ∀ (W5 : World) (L5 : List MMl) (n5 cp5 : Nat) (p5 : Option Addr), Shut (Below w.heap.size w W5 ∧ W5.heap[w.heap.size]? = some (.cells #[.int .i64 0, .int .i64 0, .int .i64 0, .int .i64 0, .int .i64 0, .int .i64 0, .int .i64 0, .int .i64 0, .int .i64 0, .int .i64 0, .slice none 0 0, .int .i64 0, .int .i64 0] 34 (0, 0)) ∧ w.heap.size < W5.heap.size ∧ n5 = (takeL (l.map MMl.m) kn tw).length ∧ ListNew (w.heap.size + 1) W5 (takeL (l.map MMl.m) kn tw) L5 p5 cp5) →
          (∀ j v, x.cells[j]? = some v → W5.cell? ⟨b1, o1 + kn * 13 + j, none⟩ = some v) ∧ Calls Try.prog 17 #[.agg #[.int .i64 x.m.f, .int .i64 x.m.t, .int .i64 x.m.k, .int .i64 x.m.h.F, .int .i64 x.m.h.Q, .int .i64 x.m.h.T, .int .i64 x.m.h.L, .int .i64 x.m.h.B, .int .i64 x.m.h.K, .int .i64 x.m.id, .slice x.da x.m.d.length x.dc, .int .i64 x.m.n, .int .i64 x.m.y]] W5 (fun e w' => ∃ z : MMl, e = .returned (.agg #[.int .i64 z.m.f, .int .i64 z.m.t, .int .i64 z.m.k, .int .i64 z.m.h.F, .int .i64 z.m.h.Q, .int .i64 z.m.h.T, .int .i64 z.m.h.L, .int .i64 z.m.h.B, .int .i64 z.m.h.K, .int .i64 z.m.id, .slice z.da z.m.d.length z.dc, .int .i64 z.m.n, .int .i64 z.m.y]) ∧ Shut (MlNew W5.heap.size w' x z ∧ Below W5.heap.size W5 w')) := fun W5 L5 n5 cp5 p5 H => by
        refine ⟨fun j v hj => mails_cell ⟨HX.out.2.1.below H.out.1 (Nat.le_refl _), HXX.out⟩ j hj, mailCopy_any x W5 (by omega) (hxi.below H.out.1)⟩
      have REST := Shut.mk rest
      clear rest hx hxs hxs2 hxi
      cases tw with
      | true =>
        have H5 : Shut (Below w.heap.size w W3 ∧ W3.heap[w.heap.size]? = some (.cells #[.int .i64 0, .int .i64 0, .int .i64 0, .int .i64 0, .int .i64 0, .int .i64 0, .int .i64 0, .int .i64 0, .int .i64 0, .int .i64 0, .slice none 0 0, .int .i64 0, .int .i64 0] 34 (0, 0)) ∧ w.heap.size < W3.heap.size ∧ n = (takeL (l.map MMl.m) kn true).length ∧ ListNew (w.heap.size + 1) W3 (takeL (l.map MMl.m) kn true) L p cp) := ⟨hB3, hk3, (Array.getElem?_eq_some_iff.1 hk3).1, by rw [takeL, if_pos rfl, List.length_map, HX.out.1], by rw [takeL, if_pos rfl]; exact HL2.out⟩
        go_upto_region 9 with fail
        obtain ⟨hcl, hMC⟩ := REST.out W3 L n cp p H5
        clear REST HL2 hB3 hk3
        have p0 : W3.cell? ⟨b1, o1 + kn * 13, none⟩ = some (.int .i64 x.m.f) := hcl 0 _ rfl
        have p1 : W3.cell? ⟨b1, o1 + kn * 13 + 1, none⟩ = some (.int .i64 x.m.t) := hcl 1 _ rfl
        have p2 : W3.cell? ⟨b1, o1 + kn * 13 + 2, none⟩ = some (.int .i64 x.m.k) := hcl 2 _ rfl
        have p3 : W3.cell? ⟨b1, o1 + kn * 13 + 3, none⟩ = some (.int .i64 x.m.h.F) := hcl 3 _ rfl
        have p4 : W3.cell? ⟨b1, o1 + kn * 13 + 4, none⟩ = some (.int .i64 x.m.h.Q) := hcl 4 _ rfl
        have p5 : W3.cell? ⟨b1, o1 + kn * 13 + 5, none⟩ = some (.int .i64 x.m.h.T) := hcl 5 _ rfl
        have p6 : W3.cell? ⟨b1, o1 + kn * 13 + 6, none⟩ = some (.int .i64 x.m.h.L) := hcl 6 _ rfl
        have p7 : W3.cell? ⟨b1, o1 + kn * 13 + 7, none⟩ = some (.int .i64 x.m.h.B) := hcl 7 _ rfl
        have p8 : W3.cell? ⟨b1, o1 + kn * 13 + 8, none⟩ = some (.int .i64 x.m.h.K) := hcl 8 _ rfl
        have p9 : W3.cell? ⟨b1, o1 + kn * 13 + 9, none⟩ = some (.int .i64 x.m.id) := hcl 9 _ rfl
        have p10 : W3.cell? ⟨b1, o1 + kn * 13 + 10, none⟩ = some (.slice x.da x.m.d.length x.dc) := hcl 10 _ rfl
        have p11 : W3.cell? ⟨b1, o1 + kn * 13 + 11, none⟩ = some (.int .i64 x.m.n) := hcl 11 _ rfl
        have p12 : W3.cell? ⟨b1, o1 + kn * 13 + 12, none⟩ = some (.int .i64 x.m.y) := hcl 12 _ rfl
        clear hcl
        go_wp2_with fail
        refine hMC.mono ?_
        rintro e W6 ⟨z, rfl, HM⟩
        have hk6 := blkB H5.out.2.1 HM.out.2
        have hB6 := H5.out.1.trans (HM.out.2.mono H5.out.1.size)
        clear hMC p0 p1 p2 p3 p4 p5 p6 p7 p8 p9 p10 p11 p12
        obtain ⟨q0, q1, q2, q3, q4, q5, q6, q7, q8, q9, q10, q11, q12⟩ := zBox hk6
        have g0 := frz hk6 0
        have g1 := frz hk6 1
        have g2 := frz hk6 2
        have g3 := frz hk6 3
        have g4 := frz hk6 4
        have g5 := frz hk6 5
        have g6 := frz hk6 6
        have g7 := frz hk6 7
        have g8 := frz hk6 8
        have g9 := frz hk6 9
        have g10 := frz hk6 10
        have g11 := frz hk6 11
        have g12 := frz hk6 12
        go_wp2
        obtain ⟨W9, hW9, hb9, hk9, hB9⟩ := box13 W6 w.heap.size 34 _ _ _ _ _ _ _ _ _ _ _ _ _ (.int .i64 z.m.f) (.int .i64 z.m.t) (.int .i64 z.m.k) (.int .i64 z.m.h.F) (.int .i64 z.m.h.Q) (.int .i64 z.m.h.T) (.int .i64 z.m.h.L) (.int .i64 z.m.h.B) (.int .i64 z.m.h.K) (.int .i64 z.m.id) (.slice z.da z.m.d.length z.dc) (.int .i64 z.m.n) (.int .i64 z.m.y) hk6
        rw [hW9]
        have hF := hB9 _ _ (Nat.le_refl _) hB6
        have R : Shut ((takeL (l.map MMl.m) kn true).length ≤ cp ∧ ListNew w.heap.size W9 (takeL (l.map MMl.m) kn true) L p cp ∧ (l.map MMl.m)[kn]? = some z.m ∧ MailIn W9 z) := by
          have h6 := H5.out.2.2.2.2.below HM.out.2
          have h5s := H5.out.2.2.1
          exact ⟨listNew_cap h6, (h6.far hk9 hB9).low (Nat.le_succ _), by rw [List.getElem?_map, HXX.out]; exact congrArg some HM.out.1.1.symm, liesG HM.out.1.2.1 hk9 (fun b o e => by have := HM.out.1.2.2.2 b o e; omega)⟩
        clear hW9 hB9 hk9 q0 q1 q2 q3 q4 q5 q6 q7 q8 q9 q10 q11 q12 g0 g1 g2 g3 g4 g5 g6 g7 g8 g9 g10 g11 g12
        obtain ⟨q0, q1, q2, q3, q4, q5, q6, q7, q8, q9, q10, q11, q12⟩ := mlBox hb9
        refine bodyPost_ret (v := .tuple #[.slice p n cp, .agg #[.int .i64 z.m.f, .int .i64 z.m.t, .int .i64 z.m.k, .int .i64 z.m.h.F, .int .i64 z.m.h.Q, .int .i64 z.m.h.T, .int .i64 z.m.h.L, .int .i64 z.m.h.B, .int .i64 z.m.h.K, .int .i64 z.m.id, .slice z.da z.m.d.length z.dc, .int .i64 z.m.n, .int .i64 z.m.y], .int .i64 0]) (by simp [results, Try.results6, go_sem, q0, q1, q2, q3, q4, q5, q6, q7, q8, q9, q10, q11, q12]) rfl ?_
        exact ⟨Or.inr ⟨R0.out, L, p, cp, z, by rw [H5.out.2.2.2.1]; rfl, R.out.1, R.out.2.1, R.out.2.2.1, R.out.2.2.2⟩, hF⟩
      | false =>
        have hLn : (l.map MMl.m).length = kn + 1 + (n - kn - 1) := by rw [List.length_map, HX.out.1]; omega
        obtain ⟨g, rfl⟩ : ∃ g, p = some ⟨g, 0, none⟩ := by
          rcases HL2.out.addr with ⟨_, _, h0⟩ | ⟨g, h, _⟩
          · omega
          · exact ⟨g, h⟩
        have hown := HL2.out.2.1
        rw [List.length_map, HX.out.1] at hown
        have hD := delMl_any g n (n - kn - 1) cp kn (w.heap.size + 1) (mailCells L) W3 (by omega) hown (mailCells_one L)
        have hw1 : IntKind.i64.wrap ((kn : Int) + 1) = (kn : Int) + 1 := by rw [IntKind.wrap_i64]; omega
        have HGW : Shut (w.heap.size < g) := ⟨by have := (hown.lt g rfl).1; omega⟩
        clear hown
        go_wp2_with fail
        refine hD.mono ?_
        rintro e W4 ⟨rfl, HD⟩
        have H5 : Shut (Below w.heap.size w W4 ∧ W4.heap[w.heap.size]? = some (.cells #[.int .i64 0, .int .i64 0, .int .i64 0, .int .i64 0, .int .i64 0, .int .i64 0, .int .i64 0, .int .i64 0, .int .i64 0, .int .i64 0, .slice none 0 0, .int .i64 0, .int .i64 0] 34 (0, 0)) ∧ w.heap.size < W4.heap.size ∧ kn + (n - kn - 1) = (takeL (l.map MMl.m) kn false).length ∧ ListNew (w.heap.size + 1) W4 (takeL (l.map MMl.m) kn false) (L.eraseIdx kn) (some ⟨g, 0, none⟩) cp) := by
          have hgw := HGW.out
          have hk4 : W4.heap[w.heap.size]? = some (.cells #[.int .i64 0, .int .i64 0, .int .i64 0, .int .i64 0, .int .i64 0, .int .i64 0, .int .i64 0, .int .i64 0, .int .i64 0, .int .i64 0, .slice none 0 0, .int .i64 0, .int .i64 0] 34 (0, 0)) := by
            rw [HD.out.2.block _ (Array.getElem?_eq_some_iff.1 hk3).1 (by simp; omega)]
            exact hk3
          refine ⟨hB3.grown HD.out.2 (by have := hB3.size; omega) (fun k hk => by (have : g = k := by simpa using hk); omega), hk4, (Array.getElem?_eq_some_iff.1 hk4).1, ?_, ?_⟩
          · rw [takeL, if_neg (by simp), List.length_eraseIdx_of_lt (by omega)]; omega
          · rw [takeL, if_neg (by simp)]
            exact HL2.out.del hLn HD.out.1 HD.out.2
        obtain ⟨hcl, hMC⟩ := REST.out W4 (L.eraseIdx kn) (kn + (n - kn - 1)) cp (some ⟨g, 0, none⟩) H5
        generalize kn + (n - kn - 1) = n5 at H5 ⊢
        generalize L.eraseIdx kn = L5 at H5
        clear REST HL2 hB3 hk3 HD hD hLn hw1
        have p0 : W4.cell? ⟨b1, o1 + kn * 13, none⟩ = some (.int .i64 x.m.f) := hcl 0 _ rfl
        have p1 : W4.cell? ⟨b1, o1 + kn * 13 + 1, none⟩ = some (.int .i64 x.m.t) := hcl 1 _ rfl
        have p2 : W4.cell? ⟨b1, o1 + kn * 13 + 2, none⟩ = some (.int .i64 x.m.k) := hcl 2 _ rfl
        have p3 : W4.cell? ⟨b1, o1 + kn * 13 + 3, none⟩ = some (.int .i64 x.m.h.F) := hcl 3 _ rfl
        have p4 : W4.cell? ⟨b1, o1 + kn * 13 + 4, none⟩ = some (.int .i64 x.m.h.Q) := hcl 4 _ rfl
        have p5 : W4.cell? ⟨b1, o1 + kn * 13 + 5, none⟩ = some (.int .i64 x.m.h.T) := hcl 5 _ rfl
        have p6 : W4.cell? ⟨b1, o1 + kn * 13 + 6, none⟩ = some (.int .i64 x.m.h.L) := hcl 6 _ rfl
        have p7 : W4.cell? ⟨b1, o1 + kn * 13 + 7, none⟩ = some (.int .i64 x.m.h.B) := hcl 7 _ rfl
        have p8 : W4.cell? ⟨b1, o1 + kn * 13 + 8, none⟩ = some (.int .i64 x.m.h.K) := hcl 8 _ rfl
        have p9 : W4.cell? ⟨b1, o1 + kn * 13 + 9, none⟩ = some (.int .i64 x.m.id) := hcl 9 _ rfl
        have p10 : W4.cell? ⟨b1, o1 + kn * 13 + 10, none⟩ = some (.slice x.da x.m.d.length x.dc) := hcl 10 _ rfl
        have p11 : W4.cell? ⟨b1, o1 + kn * 13 + 11, none⟩ = some (.int .i64 x.m.n) := hcl 11 _ rfl
        have p12 : W4.cell? ⟨b1, o1 + kn * 13 + 12, none⟩ = some (.int .i64 x.m.y) := hcl 12 _ rfl
        clear hcl
        go_wp2_with fail
        refine hMC.mono ?_
        rintro e W6 ⟨z, rfl, HM⟩
        have hk6 := blkB H5.out.2.1 HM.out.2
        have hB6 := H5.out.1.trans (HM.out.2.mono H5.out.1.size)
        clear hMC p0 p1 p2 p3 p4 p5 p6 p7 p8 p9 p10 p11 p12
        obtain ⟨q0, q1, q2, q3, q4, q5, q6, q7, q8, q9, q10, q11, q12⟩ := zBox hk6
        have g0 := frz hk6 0
        have g1 := frz hk6 1
        have g2 := frz hk6 2
        have g3 := frz hk6 3
        have g4 := frz hk6 4
        have g5 := frz hk6 5
        have g6 := frz hk6 6
        have g7 := frz hk6 7
        have g8 := frz hk6 8
        have g9 := frz hk6 9
        have g10 := frz hk6 10
        have g11 := frz hk6 11
        have g12 := frz hk6 12
        go_wp2
        obtain ⟨W9, hW9, hb9, hk9, hB9⟩ := box13 W6 w.heap.size 34 _ _ _ _ _ _ _ _ _ _ _ _ _ (.int .i64 z.m.f) (.int .i64 z.m.t) (.int .i64 z.m.k) (.int .i64 z.m.h.F) (.int .i64 z.m.h.Q) (.int .i64 z.m.h.T) (.int .i64 z.m.h.L) (.int .i64 z.m.h.B) (.int .i64 z.m.h.K) (.int .i64 z.m.id) (.slice z.da z.m.d.length z.dc) (.int .i64 z.m.n) (.int .i64 z.m.y) hk6
        rw [hW9]
        have hF := hB9 _ _ (Nat.le_refl _) hB6
        have R : Shut ((takeL (l.map MMl.m) kn false).length ≤ cp ∧ ListNew w.heap.size W9 (takeL (l.map MMl.m) kn false) L5 (some ⟨g, 0, none⟩) cp ∧ (l.map MMl.m)[kn]? = some z.m ∧ MailIn W9 z) := by
          have h6 := H5.out.2.2.2.2.below HM.out.2
          have h5s := H5.out.2.2.1
          exact ⟨listNew_cap h6, (h6.far hk9 hB9).low (Nat.le_succ _), by rw [List.getElem?_map, HXX.out]; exact congrArg some HM.out.1.1.symm, liesG HM.out.1.2.1 hk9 (fun b o e => by have := HM.out.1.2.2.2 b o e; omega)⟩
        clear hW9 hB9 hk9 q0 q1 q2 q3 q4 q5 q6 q7 q8 q9 q10 q11 q12 g0 g1 g2 g3 g4 g5 g6 g7 g8 g9 g10 g11 g12
        obtain ⟨q0, q1, q2, q3, q4, q5, q6, q7, q8, q9, q10, q11, q12⟩ := mlBox hb9
        refine bodyPost_ret (v := .tuple #[.slice (some ⟨g, 0, none⟩) n5 cp, .agg #[.int .i64 z.m.f, .int .i64 z.m.t, .int .i64 z.m.k, .int .i64 z.m.h.F, .int .i64 z.m.h.Q, .int .i64 z.m.h.T, .int .i64 z.m.h.L, .int .i64 z.m.h.B, .int .i64 z.m.h.K, .int .i64 z.m.id, .slice z.da z.m.d.length z.dc, .int .i64 z.m.n, .int .i64 z.m.y], .int .i64 0]) (by simp [results, Try.results6, go_sem, q0, q1, q2, q3, q4, q5, q6, q7, q8, q9, q10, q11, q12]) rfl ?_
        exact ⟨Or.inr ⟨R0.out, L5, (some ⟨g, 0, none⟩), cp, z, by rw [H5.out.2.2.2.1]; rfl, R.out.1, R.out.2.1, R.out.2.2.1, R.out.2.2.2⟩, hF⟩
  · have bz : (z != 0) = true := by simpa using hz
    have R : Shut (takeCode (l.map MMl.m) k ≠ 0 ∧ takeCode (l.map MMl.m) k = z) := ⟨by rw [HS.out, if_pos hz]; exact hz, by rw [HS.out, if_pos hz]⟩
    obtain ⟨q0, q1, q2, q3, q4, q5, q6, q7, q8, q9, q10, q11, q12⟩ := zBox hk1
    have g0 := frz hk1 0
    have g1 := frz hk1 1
    have g2 := frz hk1 2
    have g3 := frz hk1 3
    have g4 := frz hk1 4
    have g5 := frz hk1 5
    have g6 := frz hk1 6
    have g7 := frz hk1 7
    have g8 := frz hk1 8
    have g9 := frz hk1 9
    have g10 := frz hk1 10
    have g11 := frz hk1 11
    have g12 := frz hk1 12
    clear hz HS
    go_wp2
    obtain ⟨W9, hW9, hb9, hB9⟩ := takeBad W1 w.heap.size hk1
    rw [hW9]
    have hF := hB9 _ _ (Nat.le_refl _) hB1
    clear hW9 hB9 q0 q1 q2 q3 q4 q5 q6 q7 q8 q9 q10 q11 q12 g0 g1 g2 g3 g4 g5 g6 g7 g8 g9 g10 g11 g12
    obtain ⟨q0, q1, q2, q3, q4, q5, q6, q7, q8, q9, q10, q11, q12⟩ := zBox hb9
    refine bodyPost_ret (v := .tuple #[.slice none 0 0, .agg #[.int .i64 0, .int .i64 0, .int .i64 0, .int .i64 0, .int .i64 0, .int .i64 0, .int .i64 0, .int .i64 0, .int .i64 0, .int .i64 0, .slice none 0 0, .int .i64 0, .int .i64 0], .int .i64 z]) (by simp [results, Try.results6, go_sem, q0, q1, q2, q3, q4, q5, q6, q7, q8, q9, q10, q11, q12]) rfl ?_
    exact ⟨Or.inl ⟨R.out.1, by rw [R.out.2]⟩, hF⟩

end Go.Proofs.Ythhhlampphlmgaa

/-
  Chapter 7: the head that the laws' closed facts speak of.
-/
namespace Go.Proofs.Ythhhlampphlmgaa
open Go.RowKit
set_option linter.unusedVariables false
set_option linter.unusedSimpArgs false

def hd0 : Hd := ⟨1, 0, 2, 50, 2, 1⟩
theorem hd0_code : hdCode hd0 = 0 := by decide

theorem lawHead_any (w : World) : Calls Try.prog 21 #[] w fun e w' => e = .returned (.agg #[.int .i64 1, .int .i64 0, .int .i64 2, .int .i64 50, .int .i64 2, .int .i64 1]) ∧ Below w.heap.size w w' := by
  go_enter Try.func21, Try.ntmps21
  go_wp2
  refine bodyPost_ret (v := .agg #[.int .i64 1, .int .i64 0, .int .i64 2, .int .i64 50, .int .i64 2, .int .i64 1]) (by simp [results, Try.results21, go_sem]) rfl ?_
  exact ⟨rfl, (Below.refl _ _).alloc (Nat.le_refl _) _⟩

end Go.Proofs.Ythhhlampphlmgaa
