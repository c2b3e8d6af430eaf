import Derived.Test.YthhhlampphlmgaaPart7
import Derived.Test.YthhhlampphlmgaaPart5
import Derived.Maps.AppendAt
import Derived.RegionTactic
import Derived.BigRegion
import Derived.Deep.RegionLaw
/-
  Chapter 10: package way's listCopy.
-/
namespace Go.Proofs.Ythhhlampphlmgaa
open Go.RowKit
set_option linter.unusedVariables false
set_option linter.unusedSimpArgs false

/-- its bytes, if it has some, are not in that block -/
def OffB (g : Nat) (y : MMl) : Prop := y.m.d ≠ [] → ∀ b o, y.da = some ⟨b, o, none⟩ → b ≠ g

theorem mailIn_far {w w' : World} {y : MMl} {g : Nat} (h : MailIn w y) (ho : OffB g y) (hk : ∀ k, k ≠ g → w'.heap[k]? = w.heap[k]?) : MailIn w' y := by
  by_cases hd : y.m.d = []
  · intro k u hu
    rw [hd] at hu
    simp [bs] at hu
  · exact liesG h hk (ho hd)

theorem mailIn_lt {w : World} {y : MMl} (h : MailIn w y) (hd : y.m.d ≠ []) : ∀ b o, y.da = some ⟨b, o, none⟩ → b < w.heap.size := by
  intro b o e
  have h1 := h.lt e 0 (by rw [bs_length]; exact List.length_pos_iff.2 hd)
  have := World.block_lt_of_cell? w _ h1
  simpa using this

theorem mailCells_set (L : List MMl) (q : Nat) (x : MMl) (h : q < L.length) : mailCells (L.set q x) = (mailCells L).take (13 * q) ++ x.cells ++ (mailCells L).drop (13 * q + x.cells.length) :=
  flat_set MMl.cells 13 (fun _ => rfl) L q x h

theorem mailCells_one (l : List MMl) : ∀ v ∈ mailCells l, v.oneCell' = true := by
  intro v hv
  obtain ⟨y, _, hy⟩ := List.mem_flatMap.1 hv
  exact List.all_eq_true.1 (show y.cells.all (fun v => v.oneCell') = true from rfl) v hy

/-- how far a list of mails is copied: the first q are new -/
def CopyM (w wr : World) (g n cap : Nat) (l : List Ml) (q : Nat) : Prop :=
  ∃ L : List MMl, L.map MMl.m = l ∧ wr.ownsRow w.heap.size 34 13 (.slice (some ⟨g, 0, none⟩) n cap) n (mailCells L) ∧ (∀ y ∈ L, MailIn wr y ∧ OffB g y) ∧
    (∀ i y, L[i]? = some y → i < q → y.m.d.length ≤ y.dc ∧ ∀ b o, y.da = some ⟨b, o, none⟩ → w.heap.size ≤ b) ∧ Below w.heap.size w wr

/-- a copy of a list of mails, in new memory -/
def ListNew (B : Nat) (w' : World) (l : List Ml) (L : List MMl) (p : Option Addr) (cp : Nat) : Prop :=
  L.map MMl.m = l ∧ w'.ownsRow B 34 13 (.slice p l.length cp) l.length (mailCells L) ∧
    ∀ y ∈ L, MailIn w' y ∧ y.m.d.length ≤ y.dc ∧ (∀ b o, y.da = some ⟨b, o, none⟩ → B ≤ b) ∧ ∀ g, p = some ⟨g, 0, none⟩ → OffB g y

theorem CopyM.step {w wr W2 : World} {g n cap q : Nat} {l : List Ml} {L : List MMl} {y x : MMl} {B1 : Nat} (hL : L.map MMl.m = l) (hown : wr.ownsRow w.heap.size 34 13 (.slice (some ⟨g, 0, none⟩) n cap) n (mailCells L)) (hall : ∀ y ∈ L, MailIn wr y ∧ OffB g y)
    (hnew : ∀ i y, L[i]? = some y → i < q → y.m.d.length ≤ y.dc ∧ ∀ b o, y.da = some ⟨b, o, none⟩ → w.heap.size ≤ b) (hbr : Below w.heap.size w wr) (hq : L[q]? = some y) (hb : Below wr.heap.size wr W2) (hB1 : wr.heap.size ≤ B1) (hx : MlNew B1 W2 y x) (hqn : q < n) :
    CopyM w (setRun W2 g (13 * q) x.cells) g n cap l (q + 1) := by
  obtain ⟨hx1, hx2, hx3, hx4⟩ := hx
  have own2 := ownB hown hb
  have hln : L.length = n := by have := hown.1; rw [mailCells_length] at this; omega
  have hgl : g < wr.heap.size := (hown.lt g rfl).2
  have offx : OffB g x := fun _ b o e => by have := hx4 b o e; omega
  refine ⟨L.set q x, ?_, ?_, ?_, ?_, ?_⟩
  · rw [← hL, List.map_set, hx1]
    obtain ⟨hlt, rfl⟩ := List.getElem?_eq_some_iff.1 hq
    have : L[q].m = (L.map MMl.m)[q]'(by simpa using hlt) := by simp
    rw [this, List.set_getElem_self]
  · rw [mailCells_set L q x (by omega)]
    exact own_setRun own2 x.cells (13 * q) (by show 13 * q + 13 ≤ n * 13; omega)
  · intro z hz
    rcases List.mem_or_eq_of_mem_set hz with hz | rfl
    · have h1 := hall z hz
      exact ⟨mailIn_far (h1.1.below hb) h1.2 (fun k hk => setRun_far hk _ _ _), h1.2⟩
    · exact ⟨mailIn_far hx2 offx (fun k hk => setRun_far hk _ _ _), offx⟩
  · intro i z hz hi
    rw [List.getElem?_set] at hz
    split at hz
    · split at hz
      · obtain rfl := Option.some.inj hz
        exact ⟨hx3, fun b o e => Nat.le_trans hbr.size (Nat.le_trans hB1 (hx4 b o e))⟩
      · cases hz
    · exact hnew i z hz (by omega)
  · exact setRun_below (hown.lt g rfl).1 _ _ _ (hbr.trans (hb.mono hbr.size))

set_option maxHeartbeats 4000000 in
set_option maxRecDepth 8000 in
theorem listCopy_any (a : Option Addr) (l : List MMl) (c : Nat) (w : World) (hl : Lies w a (mailCells l)) (hall : ∀ y ∈ l, MailIn w y ∧ y.m.d.length ≤ 65536) (hm : l.length ≤ 65536) :
    Calls Try.prog 16 #[.slice a l.length c] w fun e w' => ∃ (L : List MMl) (p : Option Addr) (cp : Nat), e = .returned (.slice p l.length cp) ∧ Shut (ListNew w.heap.size w' (l.map MMl.m) L p cp ∧ Below w.heap.size w w') := by
  have hC := cloneM a l.length c (mailCells l) w (by rw [mailCells_length]; omega) (mailCells_one l) hm hl
  obtain ⟨n, hn⟩ : ∃ n, l.length = n := ⟨_, rfl⟩
  have HX := Shut.mk (And.intro hn hall)
  rw [hn] at hC hm ⊢
  clear hn hall hl
  go_enter Try.func16, Try.ntmps16
  go_wp2_with fail
  refine hC.mono ?_
  rintro e W0 ⟨p, cp, rfl, HO⟩
  clear hC
  by_cases hn0 : n = 0
  · subst hn0
    have R : Shut (ListNew w.heap.size W0 (l.map MMl.m) [] p cp ∧ Below w.heap.size w W0) := ⟨⟨by
        obtain rfl : l = [] := List.eq_nil_of_length_eq_zero HX.out.1
        rfl, by
        obtain rfl : l = [] := List.eq_nil_of_length_eq_zero HX.out.1
        exact HO.out.1, fun y hy => by cases hy⟩, HO.out.2.2.2⟩
    go_wp2
    go_loopw [9] (fun i wr => i = .int .i64 0 ∧ wr = W0) (fun i _ => 0)
    case atStart => exact ⟨rfl, rfl⟩
    case round =>
      obtain ⟨rfl, rfl⟩ := hrel
      go_wp2
      go_ret
      exact ⟨[], p, cp, rfl, R⟩
  · obtain ⟨g, cap', cur, hv, hg1, hg2, hg3, hg4, hg5, hg6⟩ : ∃ g cap cur, (Value.slice p n cp) = .slice (some ⟨g, 0, none⟩) n cap ∧ w.heap.size ≤ g ∧ W0.heap[g]? = some (.cells cur 34 (0, 0)) ∧ n ≤ cap ∧ cap ≤ maxLen ∧ cur.size = cap * 13 ∧ cur.toList.take (n * 13) = mailCells l := by
      rcases HO.out.1.2 with ⟨_, h0⟩ | ⟨g, cap, cur, h1, h2, h3, h4, h5, h6, h7⟩
      · exact absurd h0 hn0
      · exact ⟨g, cap, cur, h1, h2, h3, h4, h5, h6, h7⟩
    simp only [Value.slice.injEq] at hv
    obtain ⟨rfl, _, rfl⟩ := hv
    have HS : Shut (CopyM w W0 g n cp (l.map MMl.m) 0) := ⟨l, rfl, HO.out.1, fun y hy => ⟨(HX.out.2 y hy).1.below HO.out.2.2.2, fun hd b o e => by
      have := mailIn_lt (HX.out.2 y hy).1 hd b o e
      omega⟩, fun i y _ hi => absurd hi (by omega), HO.out.2.2.2⟩
    obtain ⟨o0, ho0⟩ : ∃ o0 : Nat, o0 = 0 := ⟨0, rfl⟩
    have HO0 := Shut.mk ho0
    rw [← ho0]
    clear hg1 hg2 hg3 hg4 hg5 hg6 HO ho0
    go_wp2
    go_loopw [9] (fun i wr => ∃ q : Nat, q ≤ n ∧ i = .int .i64 q ∧ Shut (CopyM w wr g n cp (l.map MMl.m) q)) (fun i _ => n - (intOf i).toNat)
    case atStart => exact ⟨0, Nat.zero_le _, rfl, HS⟩
    case round =>
      clear HS
      obtain ⟨q, hq, rfl, HI⟩ := hrel
      obtain ⟨L, hL, hown, hall, hnew, hbr⟩ := HI.out
      have HI2 := Shut.mk (And.intro hL (And.intro hown (And.intro hall (And.intro hnew hbr))))
      have hLn : L.length = n := by have := hown.1; rw [mailCells_length] at this; omega
      by_cases hlt : q < n
      · obtain ⟨x, hx⟩ : ∃ x, L[q]? = some x := ⟨_, List.getElem?_eq_getElem (by omega)⟩
        have HQ := Shut.mk hx
        have hxm : MailIn wr x := (hall x (List.mem_of_getElem? hx)).1
        have hxs : x.m.d.length ≤ 65536 := by
          have h1 : (l.map MMl.m)[q]? = some x.m := by rw [← hL, List.getElem?_map, hx]; rfl
          obtain ⟨y, hy1, hy2⟩ := List.mem_map.1 (List.mem_of_getElem? h1)
          rw [← hy2]
          exact (HX.out.2 y hy1).2
        have hlies : Lies wr (some ⟨g, o0, none⟩) (mailCells L) := by
          rw [HO0.out]
          obtain ⟨_, _, e1, e2, _⟩ := own_gen hown
          simp only [Value.slice.injEq] at e1
          obtain ⟨rfl, _, _⟩ := e1
          exact e2
        have h1 := And.intro hlies hx
        have hqc : q < cp := by
          obtain ⟨_, _, e1, _, e3⟩ := own_gen hown
          simp only [Value.slice.injEq] at e1
          omega
        clear HI hL hown hall hnew hx hlies
        have p0 : wr.cell? ⟨g, o0 + q * 13, none⟩ = some (.int .i64 x.m.f) := mails_cell h1 0 rfl
        have p1 : wr.cell? ⟨g, o0 + q * 13 + 1, none⟩ = some (.int .i64 x.m.t) := mails_cell h1 1 rfl
        have p2 : wr.cell? ⟨g, o0 + q * 13 + 2, none⟩ = some (.int .i64 x.m.k) := mails_cell h1 2 rfl
        have p3 : wr.cell? ⟨g, o0 + q * 13 + 3, none⟩ = some (.int .i64 x.m.h.F) := mails_cell h1 3 rfl
        have p4 : wr.cell? ⟨g, o0 + q * 13 + 4, none⟩ = some (.int .i64 x.m.h.Q) := mails_cell h1 4 rfl
        have p5 : wr.cell? ⟨g, o0 + q * 13 + 5, none⟩ = some (.int .i64 x.m.h.T) := mails_cell h1 5 rfl
        have p6 : wr.cell? ⟨g, o0 + q * 13 + 6, none⟩ = some (.int .i64 x.m.h.L) := mails_cell h1 6 rfl
        have p7 : wr.cell? ⟨g, o0 + q * 13 + 7, none⟩ = some (.int .i64 x.m.h.B) := mails_cell h1 7 rfl
        have p8 : wr.cell? ⟨g, o0 + q * 13 + 8, none⟩ = some (.int .i64 x.m.h.K) := mails_cell h1 8 rfl
        have p9 : wr.cell? ⟨g, o0 + q * 13 + 9, none⟩ = some (.int .i64 x.m.id) := mails_cell h1 9 rfl
        have p10 : wr.cell? ⟨g, o0 + q * 13 + 10, none⟩ = some (.slice x.da x.m.d.length x.dc) := mails_cell h1 10 rfl
        have p11 : wr.cell? ⟨g, o0 + q * 13 + 11, none⟩ = some (.int .i64 x.m.n) := mails_cell h1 11 rfl
        have p12 : wr.cell? ⟨g, o0 + q * 13 + 12, none⟩ = some (.int .i64 x.m.y) := mails_cell h1 12 rfl
        clear h1
        go_upto_region 5 with fail
        obtain ⟨W1, hW1⟩ : ∃ W1, wr.alloc (.cells #[.int .i64 x.m.f, .int .i64 x.m.t, .int .i64 x.m.k, .int .i64 x.m.h.F, .int .i64 x.m.h.Q, .int .i64 x.m.h.T, .int .i64 x.m.h.L, .int .i64 x.m.h.B, .int .i64 x.m.h.K, .int .i64 x.m.id, .slice x.da x.m.d.length x.dc, .int .i64 x.m.n, .int .i64 x.m.y] 34) = W1 := ⟨_, rfl⟩
        rw [hW1]
        have hb1 : Below wr.heap.size wr W1 := by rw [← hW1]; exact (Below.refl _ _).alloc (Nat.le_refl _) _
        have hk1 : W1.heap[wr.heap.size]? = some (.cells #[.int .i64 x.m.f, .int .i64 x.m.t, .int .i64 x.m.k, .int .i64 x.m.h.F, .int .i64 x.m.h.Q, .int .i64 x.m.h.T, .int .i64 x.m.h.L, .int .i64 x.m.h.B, .int .i64 x.m.h.K, .int .i64 x.m.id, .slice x.da x.m.d.length x.dc, .int .i64 x.m.n, .int .i64 x.m.y] 34 (0, 0)) := by rw [← hW1, heap_alloc_eq, if_pos rfl]
        have hC := mailCopy_any x W1 hxs (hxm.below hb1)
        clear hW1 p0 p1 p2 p3 p4 p5 p6 p7 p8 p9 p10 p11 p12 hxm hxs
        obtain ⟨q0, q1, q2, q3, q4, q5, q6, q7, q8, q9, q10, q11, q12⟩ := mlBox hk1
        clear hk1
        go_wp2_with fail
        refine hC.mono ?_
        rintro e W2 ⟨z, rfl, HZ⟩
        clear hC q0 q1 q2 q3 q4 q5 q6 q7 q8 q9 q10 q11 q12
        have hb2 := hb1.trans (HZ.out.2.mono hb1.size)
        have own2 := ownB HI2.out.2.1 hb2
        have hl2 : Lies W2 (some ⟨g, o0, none⟩) (mailCells L) := by
          rw [HO0.out]
          obtain ⟨_, _, e1, e2, _⟩ := own_gen own2
          simp only [Value.slice.injEq] at e1
          obtain ⟨rfl, _, _⟩ := e1
          exact e2
        have h1 := And.intro hl2 HQ.out
        have hfz : ∀ j, W2.frozen? ⟨g, j, none⟩ = false := by
          rcases own2.2 with ⟨h0, _⟩ | ⟨g', cap', cur, h0, _, hc, _⟩
          · cases h0
          · simp only [Value.slice.injEq, Option.some.injEq, Addr.mk.injEq] at h0
            obtain ⟨⟨rfl, _⟩, _, _⟩ := h0
            exact frz hc
        have p0 : W2.cell? ⟨g, o0 + q * 13, none⟩ = some (.int .i64 x.m.f) := mails_cell h1 0 rfl
        have f0 := hfz (o0 + q * 13)
        have p1 : W2.cell? ⟨g, o0 + q * 13 + 1, none⟩ = some (.int .i64 x.m.t) := mails_cell h1 1 rfl
        have f1 := hfz (o0 + q * 13 + 1)
        have p2 : W2.cell? ⟨g, o0 + q * 13 + 2, none⟩ = some (.int .i64 x.m.k) := mails_cell h1 2 rfl
        have f2 := hfz (o0 + q * 13 + 2)
        have p3 : W2.cell? ⟨g, o0 + q * 13 + 3, none⟩ = some (.int .i64 x.m.h.F) := mails_cell h1 3 rfl
        have f3 := hfz (o0 + q * 13 + 3)
        have p4 : W2.cell? ⟨g, o0 + q * 13 + 4, none⟩ = some (.int .i64 x.m.h.Q) := mails_cell h1 4 rfl
        have f4 := hfz (o0 + q * 13 + 4)
        have p5 : W2.cell? ⟨g, o0 + q * 13 + 5, none⟩ = some (.int .i64 x.m.h.T) := mails_cell h1 5 rfl
        have f5 := hfz (o0 + q * 13 + 5)
        have p6 : W2.cell? ⟨g, o0 + q * 13 + 6, none⟩ = some (.int .i64 x.m.h.L) := mails_cell h1 6 rfl
        have f6 := hfz (o0 + q * 13 + 6)
        have p7 : W2.cell? ⟨g, o0 + q * 13 + 7, none⟩ = some (.int .i64 x.m.h.B) := mails_cell h1 7 rfl
        have f7 := hfz (o0 + q * 13 + 7)
        have p8 : W2.cell? ⟨g, o0 + q * 13 + 8, none⟩ = some (.int .i64 x.m.h.K) := mails_cell h1 8 rfl
        have f8 := hfz (o0 + q * 13 + 8)
        have p9 : W2.cell? ⟨g, o0 + q * 13 + 9, none⟩ = some (.int .i64 x.m.id) := mails_cell h1 9 rfl
        have f9 := hfz (o0 + q * 13 + 9)
        have p10 : W2.cell? ⟨g, o0 + q * 13 + 10, none⟩ = some (.slice x.da x.m.d.length x.dc) := mails_cell h1 10 rfl
        have f10 := hfz (o0 + q * 13 + 10)
        have p11 : W2.cell? ⟨g, o0 + q * 13 + 11, none⟩ = some (.int .i64 x.m.n) := mails_cell h1 11 rfl
        have f11 := hfz (o0 + q * 13 + 11)
        have p12 : W2.cell? ⟨g, o0 + q * 13 + 12, none⟩ = some (.int .i64 x.m.y) := mails_cell h1 12 rfl
        have f12 := hfz (o0 + q * 13 + 12)
        have HST := Shut.mk (CopyM.step HI2.out.1 HI2.out.2.1 HI2.out.2.2.1 HI2.out.2.2.2.1 HI2.out.2.2.2.2 HQ.out hb2 hb1.size HZ.out.1 hlt)
        clear h1 hl2 own2 hfz hb1 hb2 HZ
        go_upto_region 6 with fail
        rw [set13]
        have e9 : Shut (CopyM w (setRun W2 g (o0 + q * 13) [.int .i64 z.m.f, .int .i64 z.m.t, .int .i64 z.m.k, .int .i64 z.m.h.F, .int .i64 z.m.h.Q, .int .i64 z.m.h.T, .int .i64 z.m.h.L, .int .i64 z.m.h.B, .int .i64 z.m.h.K, .int .i64 z.m.id, .slice z.da z.m.d.length z.dc, .int .i64 z.m.n, .int .i64 z.m.y]) g n cp (l.map MMl.m) (q + 1)) := ⟨by
          rw [HO0.out, show 0 + q * 13 = 13 * q by omega]
          exact HST.out⟩
        generalize setRun W2 g (o0 + q * 13) [.int .i64 z.m.f, .int .i64 z.m.t, .int .i64 z.m.k, .int .i64 z.m.h.F, .int .i64 z.m.h.Q, .int .i64 z.m.h.T, .int .i64 z.m.h.L, .int .i64 z.m.h.B, .int .i64 z.m.h.K, .int .i64 z.m.id, .slice z.da z.m.d.length z.dc, .int .i64 z.m.n, .int .i64 z.m.y] = W9 at e9 ⊢
        clear HST p0 p1 p2 p3 p4 p5 p6 p7 p8 p9 p10 p11 p12 f0 f1 f2 f3 f4 f5 f6 f7 f8 f9 f10 f11 f12
        go_wp2
        go_roundw
        case rel => exact ⟨q + 1, by omega, by go_num, e9⟩
        case measure => simp [intOf]; omega
      · obtain rfl : q = n := by omega
        have R : Shut (ListNew w.heap.size wr (l.map MMl.m) L (some ⟨g, 0, none⟩) cp ∧ Below w.heap.size w wr) := ⟨⟨hL, by rw [List.length_map, HX.out.1]; exact hown, fun y hy => by
          obtain ⟨i, hi⟩ := List.mem_iff_getElem?.1 hy
          have h1 := hnew i y hi (by have := (List.getElem?_eq_some_iff.1 hi).1; omega)
          refine ⟨(hall y hy).1, h1.1, h1.2, fun g' e => ?_⟩
          simp only [Option.some.injEq, Addr.mk.injEq] at e
          obtain ⟨rfl, _⟩ := e
          exact (hall y hy).2⟩, hbr⟩
        clear HI hL hown hall hnew hbr HI2
        go_wp2
        go_ret
        exact ⟨L, some ⟨g, 0, none⟩, cp, by rw [HO0.out]; rfl, R⟩

end Go.Proofs.Ythhhlampphlmgaa

/-
  Chapter 10: package way's Send.
-/
namespace Go.Proofs.Ythhhlampphlmgaa
open Go.RowKit
set_option linter.unusedVariables false
set_option linter.unusedSimpArgs false

theorem ml_short {m : Ml} (h : m.code = 0) : m.d.length ≤ 16 := by
  unfold Ml.code at h
  split at h
  · simp at h
  · unfold frCode at h
    split at h
    · simp at h
    · split at h
      · rename_i h1; exact absurd h h1
      · rename_i h1
        split at h
        · rename_i h2; exact absurd h h2
        · unfold syCode at h
          split at h
          · unfold chkS at h
            split at h
            · rename_i h3; exact absurd h h3
            · rename_i h3
              have h4 := chkP_zero (by simpa using h3)
              split at h
              · simp at h
              · split at h
                · simp at h
                · omega
          · split at h
            · simp at h
            · omega

theorem firstBad_zero : ∀ {l : List Ml}, firstBad l = 0 → ∀ m ∈ l, m.code = 0
  | [], _, m, hm => by cases hm
  | x :: l, h, m, hm => by
    rw [firstBad] at h
    split at h
    · rename_i h1; exact absurd h h1
    · rename_i h1
      rcases List.mem_cons.1 hm with rfl | hm
      · simpa using h1
      · exact firstBad_zero h m hm

theorem wy_zero {l : List Ml} (h : wyCode l = 0) : l.length ≤ 40 ∧ ∀ m ∈ l, m.code = 0 := by
  unfold wyCode at h
  split at h
  · simp at h
  · exact ⟨by omega, firstBad_zero h⟩

/-- what Send says -/
def sendCode (l : List Ml) (m : Ml) : Int := if wyCode l ≠ 0 then wyCode l else m.code

/-- what is on its way then -/
def sendL (l : List Ml) (m : Ml) : List Ml := if l.length < 40 then l ++ [m] else l

theorem own_low {w : World} {B B' n es : Nat} {e : TypeId} {v : Value} {xs : List Value} (h : w.ownsRow B e es v n xs) (hB : B' ≤ B) : w.ownsRow B' e es v n xs := by
  refine ⟨h.1, ?_⟩
  rcases h.2 with h0 | ⟨g, cap, cur, rfl, hbg, hg, hnc, hcm, hcs, htake⟩
  · exact .inl h0
  · exact .inr ⟨g, cap, cur, rfl, by omega, hg, hnc, hcm, hcs, htake⟩

theorem ListNew.low {B B' : Nat} {w' : World} {l : List Ml} {L : List MMl} {p : Option Addr} {cp : Nat} (h : ListNew B w' l L p cp) (hB : B' ≤ B) : ListNew B' w' l L p cp :=
  ⟨h.1, own_low h.2.1 hB, fun y hy => ⟨(h.2.2 y hy).1, (h.2.2 y hy).2.1, fun b o e => Nat.le_trans hB ((h.2.2 y hy).2.2.1 b o e), (h.2.2 y hy).2.2.2⟩⟩

theorem ListNew.below {B : Nat} {w w' : World} {l : List Ml} {L : List MMl} {p : Option Addr} {cp : Nat} (h : ListNew B w l L p cp) (hb : Below w.heap.size w w') : ListNew B w' l L p cp :=
  ⟨h.1, ownB h.2.1 hb, fun y hy => ⟨(h.2.2 y hy).1.below hb, (h.2.2 y hy).2⟩⟩

theorem ListNew.addr {B : Nat} {w : World} {l : List Ml} {L : List MMl} {p : Option Addr} {cp : Nat} (h : ListNew B w l L p cp) : (p = none ∧ cp = 0 ∧ l.length = 0) ∨ ∃ g, p = some ⟨g, 0, none⟩ ∧ B ≤ g ∧ g < w.heap.size := by
  rcases h.2.1.2 with ⟨h0, h1⟩ | ⟨g, cap, cur, h0, hg, hc, _⟩
  · simp only [Value.slice.injEq] at h0
    exact Or.inl ⟨h0.1, h0.2.2, h1⟩
  · simp only [Value.slice.injEq] at h0
    exact Or.inr ⟨g, h0.1, hg, (Array.getElem?_eq_some_iff.1 hc).1⟩

theorem mailIn_grown {w w' : World} {v : Value} {y : MMl} (h : MailIn w y) (hg : w.grownBy w' v.ownBlock) (ho : ∀ g, v.ownBlock = some g → OffB g y) : MailIn w' y := by
  by_cases hd : y.m.d = []
  · intro k u hu
    rw [hd] at hu
    simp [bs] at hu
  · intro k u hu
    obtain ⟨b, off, e, hc⟩ := h k u hu
    refine ⟨b, off, e, ?_⟩
    have h1 := World.block_lt_of_cell? w _ hc
    have h3 : w'.heap[b]? = w.heap[b]? := hg.block b h1 (fun e' => ho b e'.symm hd b off e rfl)
    rw [← hc]
    simp only [World.cell?, h3]

theorem ListNew.snoc {B : Nat} {w w' : World} {l : List Ml} {L : List MMl} {p : Option Addr} {cp : Nat} {x : MMl} {v' : Value} (h : ListNew B w l L p cp) (hx : MailIn w x) (hx2 : x.m.d.length ≤ x.dc) (hx3 : ∀ b o, x.da = some ⟨b, o, none⟩ → B ≤ b) (hx4 : ∀ g, p = some ⟨g, 0, none⟩ → OffB g x)
    (own' : w'.ownsRow B 34 13 v' (l.length + 1) (mailCells L ++ x.cells)) (hg : w.grownBy w' (Value.slice p l.length cp).ownBlock) (hvv : v'.ownBlock = (Value.slice p l.length cp).ownBlock ∨ v'.ownBlock = some w.heap.size) :
    ∃ p' cp', v' = .slice p' (l.length + 1) cp' ∧ l.length + 1 ≤ cp' ∧ ListNew B w' (l ++ [x.m]) (L ++ [x]) p' cp' := by
  obtain ⟨p', cp', rfl, _, hcap⟩ := own_gen own'
  have hp : ∀ g, (Value.slice p l.length cp).ownBlock = some g → p = some ⟨g, 0, none⟩ := by
    intro g e
    rcases h.addr with ⟨rfl, rfl, _⟩ | ⟨g', rfl, _, _⟩
    · cases e
    · have : g' = g := by simpa [Value.ownBlock] using e
      rw [this]
  have off : ∀ y, MailIn w y → (∀ g, p = some ⟨g, 0, none⟩ → OffB g y) → ∀ g, p' = some ⟨g, 0, none⟩ → OffB g y := by
    intro y hy ho g e
    subst e
    rcases hvv with hv | hv
    · exact ho g (hp g (hv.symm.trans rfl))
    · intro hd b o eb
      have h1 := mailIn_lt hy hd b o eb
      have h2 : g = w.heap.size := by simpa [Value.ownBlock] using hv
      omega
  refine ⟨p', cp', rfl, hcap, ?_, ?_, ?_⟩
  · rw [List.map_append, h.1]; rfl
  · rw [List.length_append, List.length_singleton, mailCells_append]
    have e : mailCells [x] = x.cells := by simp [mailCells]
    rw [e]
    exact own'
  · intro y hy
    rcases List.mem_append.1 hy with hy | hy
    · have h1 := h.2.2 y hy
      exact ⟨mailIn_grown h1.1 hg (fun g e => h1.2.2.2 g (hp g e)), h1.2.1, h1.2.2.1, off y h1.1 h1.2.2.2⟩
    · obtain rfl : y = x := by simpa using hy
      exact ⟨mailIn_grown hx hg (fun g e => hx4 g (hp g e)), hx2, hx3, off y hx hx4⟩

/-- what Send leaves -/
def SendR (B : Nat) (w' : World) (l : List Ml) (m : Ml) (e : Ending) : Prop :=
  (sendCode l m ≠ 0 ∧ e = .returned (.tuple #[.slice none 0 0, .int .i64 (sendCode l m)])) ∨
  (sendCode l m = 0 ∧ ∃ (L : List MMl) (p : Option Addr) (cp : Nat), e = .returned (.tuple #[.slice p (sendL l m).length cp, .int .i64 0]) ∧ (sendL l m).length ≤ cp ∧ ListNew B w' (sendL l m) L p cp)

theorem infoMl : (Try.prog.info? 34).map (fun i => (i.zero, i.size, i.bytes)) = some (some (.agg #[.int .i64 0, .int .i64 0, .int .i64 0, .int .i64 0, .int .i64 0, .int .i64 0, .int .i64 0, .int .i64 0, .int .i64 0, .int .i64 0, .slice none 0 0, .int .i64 0, .int .i64 0]), 13, 120) := by kernel_rfl

theorem listNew_cap {B : Nat} {w : World} {l : List Ml} {L : List MMl} {p : Option Addr} {cp : Nat} (h : ListNew B w l L p cp) : l.length ≤ cp := by
  obtain ⟨_, _, e1, _, e3⟩ := own_gen h.2.1
  simp only [Value.slice.injEq] at e1
  omega

set_option maxHeartbeats 4000000 in
set_option maxRecDepth 8000 in
theorem send_any (a : Option Addr) (l : List MMl) (c : Nat) (y : MMl) (w : World) (hl : Lies w a (mailCells l)) (hall : ∀ x ∈ l, MailIn w x ∧ MlOk x) (hc : l.length ≤ c) (hm : l.length ≤ maxLen) (hy : MailIn w y) (oy : MlOk y) :
    Calls Try.prog 5 #[.slice a l.length c, .agg #[.int .i64 y.m.f, .int .i64 y.m.t, .int .i64 y.m.k, .int .i64 y.m.h.F, .int .i64 y.m.h.Q, .int .i64 y.m.h.T, .int .i64 y.m.h.L, .int .i64 y.m.h.B, .int .i64 y.m.h.K, .int .i64 y.m.id, .slice y.da y.m.d.length y.dc, .int .i64 y.m.n, .int .i64 y.m.y]] w fun e w' => SendR w.heap.size w' (l.map MMl.m) y.m e ∧ Below w.heap.size w w' := by
  obtain ⟨i0, hii, hz0, hz1, hz2⟩ := info_parts infoMl
  obtain ⟨W, hW⟩ : ∃ W, w.alloc (.cells #[.int .i64 y.m.f, .int .i64 y.m.t, .int .i64 y.m.k, .int .i64 y.m.h.F, .int .i64 y.m.h.Q, .int .i64 y.m.h.T, .int .i64 y.m.h.L, .int .i64 y.m.h.B, .int .i64 y.m.h.K, .int .i64 y.m.id, .slice y.da y.m.d.length y.dc, .int .i64 y.m.n, .int .i64 y.m.y] 34) = W := ⟨_, rfl⟩
  have hB : Below w.heap.size w W := by rw [← hW]; exact (Below.refl _ _).alloc (Nat.le_refl _) _
  have hk : W.heap[w.heap.size]? = some (.cells #[.int .i64 y.m.f, .int .i64 y.m.t, .int .i64 y.m.k, .int .i64 y.m.h.F, .int .i64 y.m.h.Q, .int .i64 y.m.h.T, .int .i64 y.m.h.L, .int .i64 y.m.h.B, .int .i64 y.m.h.K, .int .i64 y.m.id, .slice y.da y.m.d.length y.dc, .int .i64 y.m.n, .int .i64 y.m.y] 34 (0, 0)) := by rw [← hW, heap_alloc_eq, if_pos rfl]
  have hC := wCheck_any a l c W (hl.below hB (Nat.le_refl _)) (fun x hx => (hall x hx).2) hc hm
  obtain ⟨n, hn⟩ : ∃ n, l.length = n := ⟨_, rfl⟩
  have HX := Shut.mk (And.intro hn (And.intro hl (And.intro hall (And.intro hy oy))))
  have HW := Shut.mk hW
  have HS : Shut (sendCode (l.map MMl.m) y.m = if wyCode (l.map MMl.m) ≠ 0 then wyCode (l.map MMl.m) else y.m.code) := ⟨rfl⟩
  have HZ : Shut (wyCode (l.map MMl.m) = 0 → (l.map MMl.m).length ≤ 40 ∧ ∀ m ∈ l.map MMl.m, m.code = 0) := ⟨wy_zero⟩
  rw [hn] at hC hc hm ⊢
  generalize wyCode (l.map MMl.m) = z at hC HS HZ
  clear hW hl hall hn hy oy
  go_enter Try.func5, Try.ntmps5
  go_upto_region 1 with fail
  rw [HW.out]
  clear HW
  go_wp2_with fail
  refine hC.mono ?_
  rintro e W1 ⟨rfl, hb⟩
  have hB1 := hB.trans (hb.mono hB.size)
  have hk1 := blkB hk hb
  clear hC hb hk hB
  by_cases hz : z = 0
  · subst hz
    have HS2 : Shut (sendCode (l.map MMl.m) y.m = y.m.code) := ⟨by rw [HS.out, if_neg (by simp)]⟩
    have hn40 : n ≤ 40 := by have := (HZ.out (by trivial)).1; rw [List.length_map, HX.out.1] at this; exact this
    obtain ⟨q0, q1, q2, q3, q4, q5, q6, q7, q8, q9, q10, q11, q12⟩ := mlBox hk1
    have hM := mlWell_any y W1 HX.out.2.2.2.2.1 HX.out.2.2.2.2.2
    have HY : Shut (y.m.code = 0 → y.m.d.length ≤ 16) := ⟨ml_short⟩
    generalize y.m.code = z at hM HS2 HY
    clear HS
    go_wp2_with fail
    refine hM.mono ?_
    rintro e W2 ⟨rfl, hb⟩
    have hB2 := hB1.trans (hb.mono hB1.size)
    have hk2 := blkB hk1 hb
    clear hM hb hk1 hB1 q0 q1 q2 q3 q4 q5 q6 q7 q8 q9 q10 q11 q12
    by_cases hz : z = 0
    · subst hz
      have hG := listCopy_any a l c W2 (HX.out.2.1.below hB2 (Nat.le_refl _)) (fun x hx => ⟨(HX.out.2.2.1 x hx).1.below hB2, by
        have := ml_short ((HZ.out (by trivial)).2 x.m (List.mem_map.2 ⟨x, hx, rfl⟩))
        omega⟩) (by rw [HX.out.1]; omega)
      rw [HX.out.1] at hG
      go_wp2_with fail
      refine hG.mono ?_
      rintro e W3 ⟨L, p, cp, rfl, HL⟩
      have hB3 := hB2.trans (HL.out.2.mono hB2.size)
      have hk3 := blkB hk2 HL.out.2
      have HL2 := Shut.mk (HL.out.1.low (B' := w.heap.size) hB2.size)
      have hW23 := HL.out.2.size
      clear hG hk2 HL
      by_cases hlt : n < 40
      · have HE : Shut (sendL (l.map MMl.m) y.m = l.map MMl.m ++ [y.m]) := ⟨by rw [sendL, if_pos (by rw [List.length_map, HX.out.1]; exact hlt)]⟩
        obtain ⟨q0, q1, q2, q3, q4, q5, q6, q7, q8, q9, q10, q11, q12⟩ := mlBox hk3
        have hMC := mailCopy_any y W3 (by have := HY.out (by trivial); omega) (HX.out.2.2.2.1.below hB3)
        go_wp2_with fail
        refine hMC.mono ?_
        rintro e W4 ⟨x, rfl, HM⟩
        have hB4 := hB3.trans (HM.out.2.mono hB3.size)
        have HL4 := Shut.mk (HL2.out.below HM.out.2)
        have hown4 := HL4.out.2.1
        rw [List.length_map, HX.out.1] at hown4
        have hs34 := HM.out.2.size
        have hs4 := hB4.size
        have hs3 := hB3.size
        clear hMC q0 q1 q2 q3 q4 q5 q6 q7 q8 q9 q10 q11 q12
        go_wp2_with (first | (at_builtin; refine wpList_append_own_at _ rfl _ _ 22 rfl w.heap.size 34 i0 (.agg #[.int .i64 0, .int .i64 0, .int .i64 0, .int .i64 0, .int .i64 0, .int .i64 0, .int .i64 0, .int .i64 0, .int .i64 0, .int .i64 0, .slice none 0 0, .int .i64 0, .int .i64 0]) 13 120 Try.underlying22 hii hz0 hz1 hz2 rfl (by decide) _ _ _ rfl (hown4.alloc _) ⟨W4.heap.size, 0, none⟩ 1 1 [.int .i64 x.m.f, .int .i64 x.m.t, .int .i64 x.m.k, .int .i64 x.m.h.F, .int .i64 x.m.h.Q, .int .i64 x.m.h.T, .int .i64 x.m.h.L, .int .i64 x.m.h.B, .int .i64 x.m.h.K, .int .i64 x.m.id, .slice x.da x.m.d.length x.dc, .int .i64 x.m.n, .int .i64 x.m.y] rfl rfl ?c1 ?c2 ?c3 ?c4 ?c5 ?_) | fail)
        case c1 =>
          intro j u hj
          rw [Addr.add_lit, Nat.zero_add]
          exact cellB (by rw [heap_alloc_eq, if_pos rfl]) j u (by simpa using hj)
        case c2 => exact fun u hu => List.all_eq_true.1 (show List.all [.int .i64 x.m.f, .int .i64 x.m.t, .int .i64 x.m.k, .int .i64 x.m.h.F, .int .i64 x.m.h.Q, .int .i64 x.m.h.T, .int .i64 x.m.h.L, .int .i64 x.m.h.B, .int .i64 x.m.h.K, .int .i64 x.m.id, .slice x.da x.m.d.length x.dc, .int .i64 x.m.n, .int .i64 x.m.y] (fun v => v.oneCell') = true from rfl) u hu
        case c3 => unfold maxLen; omega
        case c4 => omega
        case c5 => simp; omega
        intro v' w5 hown' hgrow _ hvv
        have hbA : Below W4.heap.size W4 (W4.alloc (.cells #[.int .i64 x.m.f, .int .i64 x.m.t, .int .i64 x.m.k, .int .i64 x.m.h.F, .int .i64 x.m.h.Q, .int .i64 x.m.h.T, .int .i64 x.m.h.L, .int .i64 x.m.h.B, .int .i64 x.m.h.K, .int .i64 x.m.id, .slice x.da x.m.d.length x.dc, .int .i64 x.m.n, .int .i64 x.m.y] 34)) := (Below.refl _ _).alloc (Nat.le_refl _) _
        have hBA := hB4.trans (hbA.mono hB4.size)
        have HLA := HL4.out.below hbA
        have hlm : (l.map MMl.m).length = n := by rw [List.length_map, HX.out.1]
        have hxd : ∀ b o, x.da = some ⟨b, o, none⟩ → W3.heap.size ≤ b := HM.out.1.2.2.2
        obtain ⟨p', cp', rfl, hcap', hLN⟩ := HLA.snoc (x := x) (v' := v') (w' := w5) (HM.out.1.2.1.below hbA) HM.out.1.2.2.1 (fun b o e => by have := hxd b o e; omega) (fun g e => by
          intro _ b o e2
          have h1 := hxd b o e2
          have h2 : g < W3.heap.size := by
            rcases HL2.out.addr with ⟨h3, _⟩ | ⟨g', h3, _, h4⟩
            · rw [h3] at e; cases e
            · rw [h3] at e; simp at e; omega
          omega) (by rw [hlm]; exact hown') (by rw [hlm]; exact hgrow) (by rw [hlm]; simpa using hvv)
        rw [hlm] at hcap'
        have hF : Below w.heap.size w w5 := hBA.grown hgrow (Nat.le_trans (by omega) hBA.size) (fun k hk => (hown4.lt k hk).1)
        have R : Shut ((sendL (l.map MMl.m) y.m).length ≤ cp' ∧ ListNew w.heap.size w5 (sendL (l.map MMl.m) y.m) (L ++ [x]) p' cp') := ⟨by rw [HE.out, List.length_append, hlm]; exact hcap', by rw [HE.out, ← HM.out.1.1]; exact hLN⟩
        have RL : Shut ((sendL (l.map MMl.m) y.m).length = n + 1) := ⟨by rw [HE.out, List.length_append, hlm]; rfl⟩
        simp only [hlm]
        clear hown' hgrow hvv hown4 hbA HLA hLN hBA hcap' HL4 hlm hxd
        go_wp2
        refine bodyPost_ret (v := .tuple #[.slice p' (n + 1) cp', .int .i64 0]) (by simp [results, Try.results5, go_sem]) rfl ?_
        exact ⟨Or.inr ⟨HS2.out, L ++ [x], p', cp', by rw [RL.out], R.out.1, R.out.2⟩, hF⟩
      · have HE : Shut (sendL (l.map MMl.m) y.m = l.map MMl.m) := ⟨by rw [sendL, if_neg (by rw [List.length_map, HX.out.1]; exact hlt)]⟩
        go_wp2
        refine bodyPost_ret (v := .tuple #[.slice p n cp, .int .i64 0]) (by simp [results, Try.results5, go_sem]) rfl ?_
        exact ⟨Or.inr ⟨HS2.out, L, p, cp, by rw [HE.out, List.length_map, HX.out.1], by rw [HE.out]; exact listNew_cap HL2.out, by rw [HE.out]; exact HL2.out⟩, hB3⟩
    · have bz : (z != 0) = true := by simpa using hz
      have R : Shut (sendCode (l.map MMl.m) y.m ≠ 0 ∧ sendCode (l.map MMl.m) y.m = z) := ⟨by rw [HS2.out]; exact hz, HS2.out⟩
      clear hz HS2
      go_wp2
      refine bodyPost_ret (v := .tuple #[.slice none 0 0, .int .i64 z]) (by simp [results, Try.results5, go_sem]) rfl ?_
      exact ⟨Or.inl ⟨R.out.1, by rw [R.out.2]⟩, hB2⟩
  · have bz : (z != 0) = true := by simpa using hz
    have R : Shut (sendCode (l.map MMl.m) y.m ≠ 0 ∧ sendCode (l.map MMl.m) y.m = z) := ⟨by rw [HS.out, if_pos hz]; exact hz, by rw [HS.out, if_pos hz]⟩
    clear hz HS
    go_wp2
    refine bodyPost_ret (v := .tuple #[.slice none 0 0, .int .i64 z]) (by simp [results, Try.results5, go_sem]) rfl ?_
    exact ⟨Or.inl ⟨R.out.1, by rw [R.out.2]⟩, hB1⟩

end Go.Proofs.Ythhhlampphlmgaa

/-
  Chapter 10: slices.Delete of one mail.
-/
namespace Go.Proofs.Ythhhlampphlmgaa
open Go.RowKit
set_option linter.unusedVariables false
set_option linter.unusedSimpArgs false

theorem infoMlD : (Try.prog.info? 34).map (fun i => (i.zero, i.size, i.bytes)) = some (some (.agg #[.int .i64 0, .int .i64 0, .int .i64 0, .int .i64 0, .int .i64 0, .int .i64 0, .int .i64 0, .int .i64 0, .int .i64 0, .int .i64 0, .slice none 0 0, .int .i64 0, .int .i64 0]), 13, 120) := by kernel_rfl

/-- an empty mail's cells -/
def mlZ : List Value := [.int .i64 0, .int .i64 0, .int .i64 0, .int .i64 0, .int .i64 0, .int .i64 0, .int .i64 0, .int .i64 0, .int .i64 0, .int .i64 0, .slice none 0 0, .int .i64 0, .int .i64 0]

theorem run_clear_ml {w : World} {g o c : Nat} (hc : ∀ j, j < 13 → (w.cell? ⟨g, o + j, none⟩).isSome = true) (hf : ∀ j, j < 13 → w.frozen? ⟨g, o + j, none⟩ = false) :
    (Builtin.clear_ #[22] 0 #[.slice (some ⟨g, o, none⟩) 1 c]).run Try.prog w = .ok (.tuple #[]) (w.setCells g o mlZ) := by
  obtain ⟨i0, hin, hz0, hz1, hz2⟩ := info_parts infoMlD
  have h := run_storeCells_cells (P := Try.prog) g o mlZ 0 w (fun j hj => hc j hj) (fun j hj => hf j hj) (fun v hv => List.all_eq_true.1 (show List.all mlZ (fun v => v.oneCell') = true from rfl) v hv)
  simp only [Nat.add_zero] at h
  have hz : (Builtin.zeroCells (Value.agg #[.int .i64 0, .int .i64 0, .int .i64 0, .int .i64 0, .int .i64 0, .int .i64 0, .int .i64 0, .int .i64 0, .int .i64 0, .int .i64 0, .slice none 0 0, .int .i64 0, .int .i64 0]).cells 1).toList = mlZ := by simp [Builtin.zeroCells, Value.cells, mlZ]; rfl
  simp [Builtin.clear_, run_underlying Try.underlying22, zeroValue, typeInfo, hin, hz0, hz, h, Sem.run_pure]

theorem own_take {w : World} {B n n' es g cap : Nat} {e : TypeId} {xs : List Value} (h : w.ownsRow B e es (.slice (some ⟨g, 0, none⟩) n cap) n xs) (hn : n' ≤ n) : w.ownsRow B e es (.slice (some ⟨g, 0, none⟩) n' cap) n' (xs.take (n' * es)) := by
  have hx := h.1
  rcases h.2 with ⟨h0, _⟩ | ⟨g', cap', cur, h0, hg, hc, h1, h2, h3, htake⟩
  · cases h0
  · simp only [Value.slice.injEq, Option.some.injEq, Addr.mk.injEq] at h0
    obtain ⟨⟨rfl, _⟩, _, rfl⟩ := h0
    have hle : n' * es ≤ n * es := Nat.mul_le_mul_right _ hn
    refine ⟨by rw [List.length_take]; omega, .inr ⟨g, cap, cur, rfl, hg, hc, by omega, h2, h3, ?_⟩⟩
    rw [← htake, List.take_take, Nat.min_eq_left hle]

theorem own_heap {w : World} {B n es g cap : Nat} {e : TypeId} {xs : List Value} (h : w.ownsRow B e es (.slice (some ⟨g, 0, none⟩) n cap) n xs) : n ≤ cap ∧ cap ≤ maxLen ∧ ∃ cur : Array Value, w.heap[g]? = some (.cells cur e (0, 0)) ∧ cur.size = cap * es ∧ cur.toList.take (n * es) = xs := by
  rcases h.2 with ⟨h0, _⟩ | ⟨g', cap', cur, h0, hg, hc, h1, h2, h3, htake⟩
  · cases h0
  · simp only [Value.slice.injEq, Option.some.injEq, Addr.mk.injEq] at h0
    obtain ⟨⟨rfl, _⟩, _, rfl⟩ := h0
    exact ⟨h1, h2, cur, hc, h3, htake⟩

theorem grownSet (g : Nat) (vs : List Value) (o : Nat) (w : World) : w.grownBy (setRun w g o vs) (some g) := by
  have hb := setRun_below (B := 0) (w := w) (Nat.zero_le g) vs w o (Below.refl _ _)
  exact ⟨hb.os, hb.tape, hb.output, hb.size, fun k hk hr => setRun_far (fun e => hr (by rw [e])) vs w o⟩

set_option maxHeartbeats 1000000 in
set_option maxRecDepth 4000 in
theorem delMl_any (g n m cap i B : Nat) (xs : List Value) (w : World) (hnm : n = i + 1 + m) (own : w.ownsRow B 34 13 (.slice (some ⟨g, 0, none⟩) n cap) n xs) (hone : ∀ u ∈ xs, u.oneCell' = true) :
    Calls Try.prog 13 #[.slice (some ⟨g, 0, none⟩) n cap, .int .i64 (i : Int), .int .i64 ((i : Int) + 1)] w fun e w' => e = .returned (.slice (some ⟨g, 0, none⟩) (i + m) cap) ∧ Shut (w'.ownsRow B 34 13 (.slice (some ⟨g, 0, none⟩) (i + m) cap) (i + m) (xs.take (13 * i) ++ xs.drop (13 * i + 13)) ∧ w.grownBy w' (some g)) := by
  obtain ⟨hn, hc, cur, hcur, hcs, htake⟩ := own_heap own
  have hxl := own.1
  unfold maxLen at hc
  have he : ((i : Int) == (i : Int) + 1) = false := by rw [beq_eq_false_iff_ne]; omega
  obtain ⟨i0, hin, hz0, hz1, hz2⟩ := info_parts infoMlD
  have hliesg : Lies w (some ⟨g, 0, none⟩) xs := by
    obtain ⟨_, _, e1, e2, _⟩ := own_gen own
    simp only [Value.slice.injEq] at e1
    obtain ⟨rfl, _, _⟩ := e1
    exact e2
  obtain ⟨ad, hA, hnews⟩ : ∃ ad : Addr, (if cap = i + 1 then some (⟨g, 0, none⟩ : Addr) else some ⟨g, (i + 1) * 13, none⟩) = some ad ∧ ∀ j u, (xs.drop (13 * i + 13))[j]? = some u → w.cell? (ad.add j) = some u := by
    by_cases e : cap = i + 1
    · rw [if_pos e]
      refine ⟨_, rfl, fun j u hu => ?_⟩
      rw [List.drop_eq_nil_of_le (by omega)] at hu
      simp at hu
    · rw [if_neg e]
      refine ⟨_, rfl, fun j u hu => ?_⟩
      rw [List.getElem?_drop] at hu
      have h1 := hliesg.at hu
      rw [Addr.add_lit]
      rw [show (i + 1) * 13 + j = 0 + (13 * i + 13 + j) by omega]
      exact h1
  obtain ⟨news, hnw⟩ : ∃ news, xs.drop (13 * i + 13) = news := ⟨_, rfl⟩
  have hnl : news.length = m * 13 := by rw [← hnw, List.length_drop]; omega
  rw [hnw] at hnews ⊢
  have HN : Shut (∀ j u, news[j]? = some u → w.cell? (ad.add j) = some u) := ⟨hnews⟩
  have s1 : Shut (news.length = m * 13) := ⟨hnl⟩
  have s2 : Shut (∀ u ∈ news, u.oneCell' = true) := ⟨fun u hu => hone u (List.mem_of_mem_drop (by rw [hnw]; exact hu))⟩
  have hcell : ∀ k, k < cap * 13 → (w.cell? ⟨g, k, none⟩).isSome = true := fun k hk => by
    rw [cellB hcur k cur[k] (by simp)]; rfl
  have s3 : Shut (∀ j, j < news.length → (w.cell? ⟨g, 0 + i * 13 + j, none⟩).isSome = true ∧ w.frozen? ⟨g, 0 + i * 13 + j, none⟩ = false) := ⟨fun j hj => ⟨hcell _ (by omega), by simp [World.frozen?, hcur]⟩⟩
  have own1 := own_setRun (ownB own (w' := w.drew) (bdn w 1 _)) news (13 * i) (by omega)
  have own2 := own_setRun own1 mlZ (13 * (i + m)) (by show 13 * (i + m) + 13 ≤ _; omega)
  have own3 := own_take own2 (n' := i + m) (by omega)
  have hgr : w.grownBy (setRun (setRun w.drew g (13 * i) news) g (13 * (i + m)) mlZ) (some g) := by
    have h0 : w.grownBy w.drew (some g) := ⟨rfl, rfl, rfl, Nat.le_refl _, fun _ _ _ => rfl⟩
    exact grown_trans h0 (grown_trans (grownSet g news _ _) (grownSet g mlZ _ _))
  have R : Shut ((setRun (setRun w.drew g (i * 13) news) g ((i + m) * 13) mlZ).ownsRow B 34 13 (.slice (some ⟨g, 0, none⟩) (i + m) cap) (i + m) (xs.take (13 * i) ++ news) ∧ w.grownBy (setRun (setRun w.drew g (i * 13) news) g ((i + m) * 13) mlZ) (some g)) := ⟨by
    rw [Nat.mul_comm i 13, Nat.mul_comm (i + m) 13]
    have e : (((xs.take (13 * i) ++ news ++ xs.drop (13 * i + news.length)).take (13 * (i + m)) ++ mlZ ++ (xs.take (13 * i) ++ news ++ xs.drop (13 * i + news.length)).drop (13 * (i + m) + mlZ.length)).take ((i + m) * 13)) = xs.take (13 * i) ++ news := by
      have l1 : (xs.take (13 * i) ++ news).length = 13 * (i + m) := by rw [List.length_append, List.length_take]; omega
      rw [List.take_append_of_le_length (l₁ := xs.take (13 * i) ++ news) (by omega), List.take_of_length_le (l := xs.take (13 * i) ++ news) (by omega), List.append_assoc, List.take_append_of_le_length (by omega), List.take_of_length_le (by omega)]
    rw [e] at own3
    exact own3, by rw [Nat.mul_comm i 13, Nat.mul_comm (i + m) 13]; exact hgr⟩
  obtain ⟨_, _, cur1, hcur1, hcs1, _⟩ := own_heap own1
  have hcl := run_clear_ml (c := cap - (i + m)) (w := w.drew.setCells g (i * 13) news) (g := g) (o := (i + m) * 13) (fun j hj => by
    rw [Nat.mul_comm i 13, cellB hcur1 _ cur1[(i + m) * 13 + j] (by simp)]; rfl) (fun j hj => by rw [Nat.mul_comm i 13]; simp [World.frozen?, hcur1])
  have HCL := Shut.mk hcl
  clear hcl hnews own own1 own2 own3 hgr hcell hliesg hcur hcur1 hone hnl htake hcs hcs1 hxl
  have hk1 : ((i : Int) + 1).toNat = i + 1 := by omega
  have hk2 : (i : Int) ≤ (cap : Int) := by omega
  have hk3 : i ≤ cap := by omega
  have hk4 : i + 1 ≤ n := by omega
  have hk5 : (i : Int) + 1 ≤ (n : Int) := by omega
  have hk6 : i ≤ n := by omega
  have hk7 : ¬ (i : Int) + 1 < 0 := by omega
  have hk8 : ¬ (cap : Int) < (i : Int) := by omega
  have hk9 : ¬ (n : Int) < (i : Int) + 1 := by omega
  have hk10 : n - (i + 1) = m := by omega
  have hk11 : n - (i + m) = 1 := by omega
  have hk12 : (i : Int) + (m : Int) ≤ (n : Int) := by omega
  have hk13 : i + m ≤ n := by omega
  have hk14 : ((i : Int) + (m : Int)).toNat = i + m := by omega
  have hk15 : cap ≠ i + m := by omega
  clear hnm
  go_enter Try.func13, Try.ntmps13
  go_wp2
  go_region_law (refine step_append_room rfl (.tmp 22) (.tmp 25) 22 rfl 34 i0 13 Try.underlying22 hin hz1 g 0 i cap (by simp [Act.eval, Act.put]) ad m (cap - (i + 1)) _ (by simp [Act.eval, Act.put]) s1.out HN.out s2.out (by omega) s3.out ?_)
  have hcl := HCL.out
  go_wp2
  go_ret
  exact ⟨rfl, R⟩

end Go.Proofs.Ythhhlampphlmgaa
