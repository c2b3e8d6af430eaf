import Derived.Test.YtpmgmddicbpgjaaDoorPart5
import Derived.Test.YtpmgmddicbpgjaaDoorPart4
import Derived.Test.YtpmgmddicbpgjaaDoorPart1
import Derived.BigQuiet
import Derived.Deep.RegionWith
import Derived.Shelf.Abstract
import Derived.Test.YtpmgmddicbpgjaaDoorPart3
import Derived.Lib.RabinKarpLaws
import Derived.Deep.AppendLies
import Derived.Deep.RegionLaw
import Derived.Deep.RegionHeldLaw
import Derived.Deep.CutBlock
/-
  Chapter 5, pure: rows told by lists; what Check answers; right rows are rows in order.
-/
namespace Go.Proofs.YtpmgmddicbpgjaaDoor
open Go.RowKit
set_option linter.unusedVariables false
set_option linter.unusedSimpArgs false

/-- a row, told by its lists -/
abbrev LRow := List Bool × List UInt8

def LRow.v (r : LRow) : V := ⟨fun k => r.1.getD k false, fun t => r.2.getD t 0⟩

/-- of n blocks, k bytes a block -/
def Fits (n k : Nat) (r : LRow) : Prop := r.1.length = n ∧ r.2.length = k

theorem LRow.v_has {r : LRow} {k : Nat} (hk : k < r.1.length) : (LRow.v r).has k = r.1[k] := by
  show r.1.getD k false = _
  rw [List.getD_eq_getElem?_getD, List.getElem?_eq_getElem hk]
  rfl

theorem LRow.v_of {n k : Nat} {r : LRow} (h : Fits n k r) : Of n (LRow.v r) := fun j hj => by
  show r.1.getD j false = false
  rw [List.getD_eq_getElem?_getD, List.getElem?_eq_none (by rw [h.1]; exact hj)]
  rfl

/-- rows of one size that say the same are the same -/
theorem LRow.v_inj {n k : Nat} {r s : LRow} (hr : Fits n k r) (hs : Fits n k s) (h : LRow.v r = LRow.v s) : r = s := by
  obtain ⟨a, b⟩ := r
  obtain ⟨c, d⟩ := s
  obtain ⟨h1, h2⟩ := hr
  obtain ⟨h3, h4⟩ := hs
  simp only at h1 h2 h3 h4
  have e1 : a = c := by
    apply List.ext_getElem (by omega)
    intro i p q
    have := congrArg (fun v => v.has i) h
    simp only [LRow.v, List.getD_eq_getElem?_getD, List.getElem?_eq_getElem p, List.getElem?_eq_getElem q, Option.getD_some] at this
    exact this
  have e2 : b = d := by
    apply List.ext_getElem (by omega)
    intro i p q
    have := congrArg (fun v => v.dat i) h
    simp only [LRow.v, List.getD_eq_getElem?_getD, List.getElem?_eq_getElem p, List.getElem?_eq_getElem q, Option.getD_some] at this
    exact this
  rw [e1, e2]

theorem rows_inj {n k : Nat} : ∀ {A B : List LRow}, (∀ r ∈ A, Fits n k r) → (∀ r ∈ B, Fits n k r) → A.map LRow.v = B.map LRow.v → A = B := by
  intro A
  induction A with
  | nil => intro B _ _ h; cases B with
    | nil => rfl
    | cons b B => simp at h
  | cons a A ih =>
    intro B hA hB h
    cases B with
    | nil => simp at h
    | cons b B =>
      simp only [List.map_cons, List.cons.injEq] at h
      rw [LRow.v_inj (hA a List.mem_cons_self) (hB b List.mem_cons_self) h.1, ih (fun r hr => hA r (List.mem_cons_of_mem _ hr)) (fun r hr => hB r (List.mem_cons_of_mem _ hr)) h.2]

theorem firstI_range (h : List Bool) : firstI h = -1 ∨ ∃ k : Nat, firstI h = k ∧ k < h.length ∧ h.getD k false = true ∧ ∀ j, j < k → h.getD j false = false := by
  by_cases hl : h.findIdx id < h.length
  · refine .inr ⟨h.findIdx id, by rw [firstI, if_pos hl], hl, ?_, ?_⟩
    · have := List.findIdx_getElem (w := hl)
      rw [List.getD_eq_getElem?_getD, List.getElem?_eq_getElem hl]
      simpa using this
    · intro j hj
      have := List.not_of_lt_findIdx (p := id) (xs := h) (i := j) hj
      rw [List.getD_eq_getElem?_getD, List.getElem?_eq_getElem (by omega)]
      simpa using this
  · exact .inl (by rw [firstI, if_neg hl])

/-- the first block of a row that has one -/
theorem firstI_lead {r : LRow} {k : Nat} : firstI r.1 = k ↔ Lead (LRow.v r) k := by
  constructor
  · intro h
    rcases firstI_range r.1 with e | ⟨m, e, h1, h2, h3⟩
    · omega
    · have : m = k := by omega
      subst this
      exact ⟨h2, h3⟩
  · intro h
    rcases firstI_range r.1 with e | ⟨m, e, h1, h2, h3⟩
    · exfalso
      have hk : k < r.1.length := by
        apply Decidable.byContradiction
        intro hn
        have := h.1
        rw [show (LRow.v r).has k = r.1.getD k false from rfl, List.getD_eq_getElem?_getD, List.getElem?_eq_none (by omega)] at this
        simp at this
      have hl : r.1.findIdx id < r.1.length := List.findIdx_lt_length_of_exists ⟨r.1[k], List.getElem_mem hk, by
        have := h.1
        rw [LRow.v_has hk] at this
        simpa using this⟩
      rw [firstI, if_pos hl] at e
      omega
    · rw [e]
      have : Lead (LRow.v r) m := ⟨h2, h3⟩
      rw [this.one h]

theorem firstI_no {r : LRow} : firstI r.1 = -1 ↔ None' (LRow.v r) := by
  constructor
  · intro h j
    rcases Bool.eq_false_or_eq_true ((LRow.v r).has j) with e | e
    · obtain ⟨m, _, hm⟩ := Lead.of_has e
      have := firstI_lead.2 hm
      omega
    · exact e
  · intro h
    rcases firstI_range r.1 with e | ⟨m, e, h1, h2, h3⟩
    · exact e
    · have := h m
      rw [show (LRow.v r).has m = r.1.getD m false from rfl, h2] at this
      simp at this

/-- the row at place i is as it must be -/
def RowOk (B K : Int) (A : List LRow) (i : Nat) : Prop :=
  (A[i]?.getD ([], [])).1.length = B ∧ (A[i]?.getD ([], [])).2.length = K ∧ 0 ≤ firstI (A[i]?.getD ([], [])).1 ∧ (0 < i → firstI (A[i - 1]?.getD ([], [])).1 < firstI (A[i]?.getD ([], [])).1) ∧
  ∀ j, j < A.length → j ≠ i → (A[j]?.getD ([], [])).1.getD (firstI (A[i]?.getD ([], [])).1).toNat false = false

open Classical in
/-- what Check answers -/
noncomputable def chkSys (B K : Int) (A : List LRow) : Int :=
  if ¬ (1 ≤ B ∧ B ≤ 24 ∧ 1 ≤ K ∧ K ≤ 16) then 3 else if B < A.length then 2 else if ∀ i, i < A.length → RowOk B K A i then 0 else 4

theorem chkSys_range {B K : Int} {A : List LRow} (h : ¬ (1 ≤ B ∧ B ≤ 24 ∧ 1 ≤ K ∧ K ≤ 16)) : chkSys B K A = 3 := if_pos h
theorem chkSys_many {B K : Int} {A : List LRow} (h : 1 ≤ B ∧ B ≤ 24 ∧ 1 ≤ K ∧ K ≤ 16) (h2 : B < A.length) : chkSys B K A = 2 := by rw [chkSys, if_neg (by simpa using h), if_pos h2]
theorem chkSys_form {B K : Int} {A : List LRow} (h : 1 ≤ B ∧ B ≤ 24 ∧ 1 ≤ K ∧ K ≤ 16) (h2 : ¬ B < A.length) {i : Nat} (hi : i < A.length) (h3 : ¬ RowOk B K A i) : chkSys B K A = 4 := by
  rw [chkSys, if_neg (by simpa using h), if_neg h2, if_neg fun hh => h3 (hh i hi)]
theorem chkSys_ok {B K : Int} {A : List LRow} (h : 1 ≤ B ∧ B ≤ 24 ∧ 1 ≤ K ∧ K ≤ 16) (h2 : ¬ B < A.length) (h3 : ∀ i, i < A.length → RowOk B K A i) : chkSys B K A = 0 := by
  rw [chkSys, if_neg (by simpa using h), if_neg h2, if_pos h3]

/-- a right system -/
structure Right (n k : Nat) (A : List LRow) : Prop where
  n1 : 1 ≤ n
  n2 : n ≤ 24
  k1 : 1 ≤ k
  k2 : k ≤ 16
  fits : ∀ r ∈ A, Fits n k r
  sys : Sys (A.map LRow.v)

theorem Right.of {n k : Nat} {A : List LRow} (h : Right n k A) : ∀ v ∈ A.map LRow.v, Of n v := by
  intro v hv
  obtain ⟨r, hr, rfl⟩ := List.mem_map.1 hv
  exact LRow.v_of (h.fits r hr)

theorem Right.few {n k : Nat} {A : List LRow} (h : Right n k A) : A.length ≤ n := by
  have := h.sys.few h.of
  simpa using this

theorem getD_get {A : List LRow} {i : Nat} (hi : i < A.length) : A[i]?.getD ([], []) = A[i] := by rw [List.getElem?_eq_getElem hi]; rfl

/-- what Check takes is right -/
theorem right_of_chk {B K : Int} {A : List LRow} (h : chkSys B K A = 0) : ∃ n k : Nat, B = n ∧ K = k ∧ Right n k A := by
  unfold chkSys at h
  split at h
  · omega
  · rename_i h1
    have h1 : 1 ≤ B ∧ B ≤ 24 ∧ 1 ≤ K ∧ K ≤ 16 := Decidable.not_not.1 h1
    split at h
    · omega
    · split at h
      · rename_i h2 h3
        refine ⟨B.toNat, K.toNat, by omega, by omega, by omega, by omega, by omega, by omega, ?_, ?_⟩
        · intro r hr
          obtain ⟨i, hi, rfl⟩ := List.getElem_of_mem hr
          obtain ⟨a, b, _⟩ := h3 i hi
          rw [getD_get hi] at a b
          exact ⟨by omega, by omega⟩
        · have lead : ∀ i (hi : i < A.length), Lead (LRow.v A[i]) (firstI A[i].1).toNat := by
            intro i hi
            obtain ⟨_, _, c, _⟩ := h3 i hi
            rw [getD_get hi] at c
            exact firstI_lead.1 (by omega)
          have step : ∀ d i (hi : i + d + 1 < A.length), firstI (A[i]'(by omega)).1 < firstI (A[i + d + 1]).1 := by
            intro d
            induction d with
            | zero =>
              intro i hi
              obtain ⟨_, _, _, e, _⟩ := h3 (i + 0 + 1) hi
              have := e (by omega)
              rw [getD_get hi, getD_get (show i + 0 + 1 - 1 < A.length by omega)] at this
              exact this
            | succ d ih =>
              intro i hi
              have a := ih i (by omega)
              obtain ⟨_, _, _, e, _⟩ := h3 (i + (d + 1) + 1) hi
              have := e (by omega)
              rw [getD_get hi, getD_get (show i + (d + 1) + 1 - 1 < A.length by omega)] at this
              exact Int.lt_trans a this
          refine ⟨?_, ?_⟩
          · intro r hr
            obtain ⟨s, hs, rfl⟩ := List.mem_map.1 hr
            obtain ⟨i, hi, rfl⟩ := List.getElem_of_mem hs
            exact ⟨_, lead i hi⟩
          · rw [List.pairwise_map, List.pairwise_iff_getElem]
            intro i j hi hj hij
            obtain ⟨d, rfl⟩ : ∃ d, j = i + d + 1 := ⟨j - i - 1, by omega⟩
            refine ⟨_, _, lead i hi, lead (i + d + 1) hj, ?_, ?_⟩
            · have := step d i hj
              obtain ⟨_, _, c, _⟩ := h3 i hi
              rw [getD_get hi] at c
              omega
            · obtain ⟨_, _, _, _, e⟩ := h3 (i + d + 1) hj
              have := e i hi (by omega)
              rw [getD_get hi, getD_get hj] at this
              exact this
      · omega

/-- .. and what is right is taken -/
theorem chk_of_right {n k : Nat} {A : List LRow} (h : Right n k A) : chkSys n k A = 0 := by
  have hA := h.few
  have n1 := h.n1
  have n2 := h.n2
  have k1 := h.k1
  have k2 := h.k2
  refine chkSys_ok ⟨by omega, by omega, by omega, by omega⟩ (by omega) ?_
  intro i hi
  have lead : ∀ j (hj : j < A.length), ∃ m : Nat, Lead (LRow.v A[j]) m ∧ firstI A[j].1 = m := by
    intro j hj
    obtain ⟨m, hm⟩ := h.sys.lead _ (List.mem_map_of_mem (List.getElem_mem hj))
    exact ⟨m, hm, firstI_lead.2 hm⟩
  obtain ⟨m, hm, em⟩ := lead i hi
  have hf := h.fits _ (List.getElem_mem hi)
  unfold RowOk
  rw [getD_get hi]
  refine ⟨by rw [hf.1], by rw [hf.2], by omega, ?_, ?_⟩
  · intro h0
    rw [getD_get (show i - 1 < A.length by omega)]
    have hp := List.pairwise_iff_getElem.1 h.sys.pair (i - 1) i (by simp; omega) (by simpa using hi) (by omega)
    simp only [List.getElem_map] at hp
    obtain ⟨a, b, ha, hb, hab, _⟩ := hp
    have e1 := firstI_lead.2 ha
    have e2 := firstI_lead.2 hb
    omega
  · intro j hj hne
    rw [getD_get hj, em]
    simp only [Int.toNat_natCast]
    rcases Bool.eq_false_or_eq_true ((LRow.v A[j]).has m) with e | e
    · exfalso
      have hs := h.sys.apart (List.mem_map_of_mem (List.getElem_mem hi)) (List.mem_map_of_mem (List.getElem_mem hj)) hm e
      rcases Nat.lt_or_gt_of_ne hne with hlt | hlt
      · have hp := List.pairwise_iff_getElem.1 h.sys.pair j i (by simpa using hj) (by simpa using hi) hlt
        simp only [List.getElem_map] at hp
        rw [hs] at hp
        exact hp.ne
      · have hp := List.pairwise_iff_getElem.1 h.sys.pair i j (by simpa using hi) (by simpa using hj) hlt
        simp only [List.getElem_map] at hp
        rw [hs] at hp
        exact hp.ne
    · exact e

end Go.Proofs.YtpmgmddicbpgjaaDoor

/-
  Worlds above a world: all that was there is as it was. A region that draws its order, whose operations only read, and whose callees turn nothing that was there: one walk.
-/
namespace Go.Proofs.YtpmgmddicbpgjaaDoor
open Go.RowKit
set_option linter.unusedVariables false

/-- the worlds above a world -/
def Above (w : World) : Type := { w' : World // Below w.heap.size w w' }

def Above.w {w : World} (u : Above w) : World := u.1
theorem Above.below {w : World} (u : Above w) : Below w.heap.size w u.w := u.2

def Above.start (w : World) : Above w := ⟨w, Below.refl _ _⟩

/-- on behind a call -/
def Above.next {w : World} (u : Above w) {w' : World} (h : Below u.w.heap.size u.w w') : Above w := ⟨w', u.2.trans (h.mono u.2.size)⟩

theorem Above.cell {w : World} {b o : Nat} {v : Value} (h : w.cell? ⟨b, o, none⟩ = some v) (u : Above w) : u.w.cell? ⟨b, o, none⟩ = some v := by
  have := World.block_lt_of_cell? w _ h
  exact ((bcell u.2).1 b o this).trans h

theorem wp_region_above {P : Program} {id : Nat} {Q : Exit → Act → World → Prop} {a : Act} {w : World} {l : List Oper} (hm : P.follows .mixedOrders = true) (hB : Region.lexB .any l.toArray = true)
    (h : wpQuiet P l.toArray (fun w' => ∃ u : Above w, w' = u.w) (fun a' => ∀ w', (∃ u : Above w, w' = u.w) → Q .normal a' w') l a) : (Code.region id l.toArray true).wp P Q a w :=
  wp_region_quiet (C := fun w' => ∃ u : Above w, w' = u.w) hm hB ⟨⟨w.drew, (Below.refl _ _).drew⟩, rfl⟩ (by simpa using h)

/-- a contract of a callee that turns nothing that was there -/
theorem Calls.above {P : Program} {f : FuncId} {args : Array Value} {w : World} {u : Above w} {v : Value} (h : Calls P f args u.w fun e w' => e = .returned v ∧ Below u.w.heap.size u.w w') :
    Calls P f args u.w fun e w'' => e = .returned v ∧ ∃ u' : Above w, w'' = u'.w :=
  h.mono fun _ w' ⟨he, hb⟩ => ⟨he, u.next hb, rfl⟩

end Go.Proofs.YtpmgmddicbpgjaaDoor

/-
  The reference's CheckSystem: its contract.
-/
namespace Go.Proofs.YtpmgmddicbpgjaaDoor
open Go.RowKit
set_option linter.unusedVariables false
set_option linter.unusedSimpArgs false

/-- a system's box -/
def Box3 (w : World) (g : Nat) (x y z : Value) : Prop := w.cell? ⟨g, 0, none⟩ = some x ∧ w.cell? ⟨g, 1, none⟩ = some y ∧ w.cell? ⟨g, 2, none⟩ = some z

theorem Box3.mk (w : World) (x y z : Value) (t : TypeId) : Box3 (w.alloc (.cells #[x, y, z] t)) w.heap.size x y z := by
  have h := Lies.alloc_new w #[x, y, z] t
  exact ⟨h.at (k := 0) rfl, h.at (k := 1) rfl, h.at (k := 2) rfl⟩

theorem Box3.below {w w1 : World} {g : Nat} {x y z : Value} (h : Box3 w g x y z) (hb : Below w.heap.size w w1) : Box3 w1 g x y z := ⟨cellC h.1 hb, cellC h.2.1 hb, cellC h.2.2 hb⟩

theorem Box2.mk (w : World) (x y : Value) (t : TypeId) : (w.alloc (.cells #[x, y] t)).cell? ⟨w.heap.size, 0, none⟩ = some x ∧ (w.alloc (.cells #[x, y] t)).cell? ⟨w.heap.size, 1, none⟩ = some y := by
  have h := Lies.alloc_new w #[x, y] t
  exact ⟨h.at (k := 0) rfl, h.at (k := 1) rfl⟩

/-- all but the other rows -/
def RowPre (n k : Nat) (A : List LRow) (q F : Nat) : Prop :=
  (A[q]?.getD ([], [])).1.length = n ∧ (A[q]?.getD ([], [])).2.length = k ∧ firstI (A[q]?.getD ([], [])).1 = F ∧ (0 < q → firstI (A[q - 1]?.getD ([], [])).1 < firstI (A[q]?.getD ([], [])).1)

theorem RowPre.ok {n k q F : Nat} {A : List LRow} (h : RowPre n k A q F) (ho : ∀ j, j < A.length → j ≠ q → (A[j]?.getD ([], [])).1.getD F false = false) : RowOk n k A q := by
  obtain ⟨a, b, c, d⟩ := h
  refine ⟨by rw [a], by rw [b], by omega, d, ?_⟩
  intro j hj hne
  rw [c]
  exact ho j hj hne

theorem RowPre.not {n k q F j : Nat} {A : List LRow} (h : RowPre n k A q F) (hj : j < A.length) (hne : j ≠ q) (ht : (A[j]?.getD ([], [])).1.getD F false = true) : ¬ RowOk n k A q := by
  obtain ⟨a, b, c, d⟩ := h
  intro ho
  have := ho.2.2.2.2 j hj hne
  rw [c] at this
  simp only [Int.toNat_natCast] at this
  rw [ht] at this
  simp at this

end Go.Proofs.YtpmgmddicbpgjaaDoor

/-
  The reference's KnownOf: its contract.
-/
namespace Go.Proofs.YtpmgmddicbpgjaaDoor
open Go.RowKit
set_option linter.unusedVariables false
set_option linter.unusedSimpArgs false

/-- one row more is looked at -/
def kSet (l : List (List UInt8)) (r : LRow) : List (List UInt8) := if r.1.count true = 1 then l.set (firstI r.1).toNat r.2 else l

/-- what is known of each block; nothing: [] -/
def knownL (n : Nat) (A : List LRow) : List (List UInt8) := A.foldl kSet (List.replicate n [])

theorem kSet_length (l : List (List UInt8)) (r : LRow) : (kSet l r).length = l.length := by
  unfold kSet
  split <;> simp

theorem knownL_snoc (n : Nat) (A : List LRow) (r : LRow) : knownL n (A ++ [r]) = kSet (knownL n A) r := by simp [knownL, List.foldl_append]

theorem knownL_length (n : Nat) (A : List LRow) : (knownL n A).length = n := by
  unfold knownL
  have h : ∀ (A : List LRow) (l : List (List UInt8)), (A.foldl kSet l).length = l.length := by
    intro A
    induction A with
    | nil => intro l; rfl
    | cons r A ih => intro l; rw [List.foldl_cons, ih, kSet_length]
  rw [h, List.length_replicate]

def nilB : Blk := ⟨none, 0, []⟩

/-- the list in the making -/
def KInv (w wr : World) (g n : Nat) (A : List LRow) : Prop :=
  Below w.heap.size w wr ∧ w.heap.size ≤ g ∧ g < wr.heap.size ∧ ∃ bl : List Blk, bl.length = n ∧ wr.rowIs g 36 n (fun j => (bl[j]?.getD nilB).val) ∧ AllIn w bl ∧ bl.map Blk.l = knownL n A

theorem rowIs_below {w w' : World} {g n : Nat} {t : TypeId} {f : Nat → Value} (h : w.rowIs g t n f) (hb : Below w.heap.size w w') (hg : g < w.heap.size) : w'.rowIs g t n f := by
  unfold World.rowIs at *
  rw [hb.block g hg]
  exact h

theorem KInv.start {w W0 : World} {n : Nat} (hb : Below w.heap.size w W0) : KInv w (W0.alloc (.cells (madeCells #[Value.slice none 0 0] n) 36)) W0.heap.size n [] := by
  refine ⟨hb.alloc hb.size _, hb.size, by simp, List.replicate n nilB, by simp, ?_, ?_, ?_⟩
  · refine (World.rowIs_made W0 _ n _).congr fun j hj => ?_
    simp [hj, nilB, Blk.val]
  · intro b hb'
    obtain rfl := List.eq_of_mem_replicate hb'
    exact ⟨Lies.nil _ _, by simp [nilB, maxLen]⟩
  · simp [knownL, nilB]

theorem KInv.below {w wr w' : World} {g n : Nat} {A : List LRow} (h : KInv w wr g n A) (hb : Below wr.heap.size wr w') : KInv w w' g n A := by
  obtain ⟨h1, h2, h3, bl, h4, h5, h6, h7⟩ := h
  exact ⟨h1.trans (hb.mono h1.size), h2, by have := hb.size; omega, bl, h4, rowIs_below h5 hb h3, h6, h7⟩

/-- a row that has one block alone -/
theorem KInv.put {w wr : World} {g n F : Nat} {A : List LRow} {r : MRow} (h : KInv w wr g n A) (hc : r.h.count true = 1) (hF : firstI r.h = F) (hr : RowIn w r) :
    KInv w (wr.setCell ⟨g, F, none⟩ r.dv) g n (A ++ [r.says]) := by
  obtain ⟨h1, h2, h3, bl, h4, h5, h6, h7⟩ := h
  have hb : Below w.heap.size w (wr.setCell ⟨g, F, none⟩ r.dv) := h1.setCell (p := ⟨g, F, none⟩) (by simpa using h2) _
  refine ⟨hb, h2, by simpa using h3, bl.set F ⟨r.da, r.dc, r.d⟩, by simpa using h4, ?_, ?_, ?_⟩
  · refine (h5.set F _).congr fun j hj => ?_
    by_cases e : j = F
    · subst e
      simp [h4, hj, Blk.val, MRow.dv]
    · rw [if_neg e, List.getElem?_set_ne (Ne.symm e)]
  · intro b hb'
    rcases List.mem_or_eq_of_mem_set hb' with hm | rfl
    · exact h6 b hm
    · exact ⟨hr.2.1, hr.2.2.2⟩
  · rw [knownL_snoc, kSet, show r.says.1.count true = 1 from hc, if_pos rfl, List.map_set, h7]
    show _ = (knownL n A).set (firstI r.h).toNat r.d
    rw [hF]
    simp

theorem KInv.pass {w wr : World} {g n : Nat} {A : List LRow} {r : MRow} (h : KInv w wr g n A) (hc : ¬ r.h.count true = 1) : KInv w wr g n (A ++ [r.says]) := by
  obtain ⟨h1, h2, h3, bl, h4, h5, h6, h7⟩ := h
  refine ⟨h1, h2, h3, bl, h4, h5, h6, ?_⟩
  rw [knownL_snoc, kSet, if_neg (by exact hc), h7]

theorem count_first {h : List Bool} (hc : h.count true = 1) : ∃ F : Nat, firstI h = F ∧ F < h.length := by
  rcases firstI_range h with e | ⟨k, e, hk, _⟩
  · exfalso
    have := (firstI_no (r := (h, []))).1 e
    have h0 : h.count true = 0 := List.count_eq_zero.2 fun hm => by
      obtain ⟨i, hi, hx⟩ := List.getElem_of_mem hm
      have h2 := this i
      rw [LRow.v_has hi] at h2
      simp only at h2
      rw [hx] at h2
      simp at h2
    omega
  · exact ⟨k, e, hk⟩

end Go.Proofs.YtpmgmddicbpgjaaDoor

/-
  The reference's AddRow: the search for a row that has a block.
-/
namespace Go.Proofs.YtpmgmddicbpgjaaDoor
open Go.RowKit
set_option linter.unusedVariables false
set_option linter.unusedSimpArgs false

/-- where the first row that has this block is; none: -1 -/
def idx (c : Nat) (l : List MRow) : Int := if l.findIdx (fun r => (LRow.v r.says).has c) < l.length then (l.findIdx (fun r => (LRow.v r.says).has c) : Nat) else -1

theorem idx_at {c : Nat} {l : List MRow} {k : Nat} (hk : k < l.length) (ht : (LRow.v l[k].says).has c = true) (hn : ∀ j (hj : j < k), (LRow.v (l[j]'(by omega)).says).has c = false) : idx c l = k := by
  have e : l.findIdx (fun r => (LRow.v r.says).has c) = k := by
    rw [List.findIdx_eq hk]
    exact ⟨ht, fun j hj => by simpa using hn j hj⟩
  rw [idx, e, if_pos hk]

theorem idx_none {c : Nat} {l : List MRow} (hn : ∀ j (hj : j < l.length), (LRow.v l[j].says).has c = false) : idx c l = -1 := by
  rw [idx, if_neg]
  intro hl
  have := List.findIdx_getElem (w := hl)
  rw [hn _ hl] at this
  simp at this

end Go.Proofs.YtpmgmddicbpgjaaDoor

/-
  The reference's Sum, which counts bits: its contract.
-/
namespace Go.Proofs.YtpmgmddicbpgjaaDoor
open Go.RowKit
set_option linter.unusedVariables false
set_option linter.unusedSimpArgs false

/-- a byte's bit -/
def bitAt (x : UInt8) (j : Nat) : Nat := x.toNat / 2 ^ j % 2

/-- how many of them have the bit set, at byte i -/
def cntB (ls : List (List UInt8)) (i j : Nat) : Nat := (ls.map fun b => bitAt (b[i]?.getD 0) j).sum

theorem bitAt_le (x : UInt8) (j : Nat) : bitAt x j ≤ 1 := by unfold bitAt; omega

theorem cntB_le (ls : List (List UInt8)) (i j : Nat) : cntB ls i j ≤ ls.length := by
  induction ls with
  | nil => simp [cntB]
  | cons b r ih =>
    have := bitAt_le (b[i]?.getD 0) j
    simp only [cntB, List.map_cons, List.sum_cons, List.length_cons] at ih ⊢
    omega

theorem cntB_snoc (ls : List (List UInt8)) (b : List UInt8) (i j : Nat) : cntB (ls ++ [b]) i j = cntB ls i j + bitAt (b[i]?.getD 0) j := by
  simp [cntB]

theorem cntB_take {bl : List Blk} {m : Nat} (hm : m < bl.length) {i : Nat} (hi : i < bl[m].l.length) (j : Nat) :
    cntB ((bl.map Blk.l).take (m + 1)) i j = cntB ((bl.map Blk.l).take m) i j + bitAt bl[m].l[i] j := by
  rw [List.take_succ_eq_append_getElem (by simpa using hm), cntB_snoc]
  simp [hi]

theorem and_one' (i : Nat) (hi : i < 9223372036854775808) : bits BinOp.and IntKind.i64 (i : Int) 1 = ((i % 2 : Nat) : Int) := by
  exact Go.Proofs.and_one i hi

theorem bit_step (x : UInt8) (j c : Nat) (hc : c ≤ 140737488355328) : wrap64 ((c : Int) + bits BinOp.and IntKind.i64 (wrap64 ((x.toNat : Int) / 2 ^ j)) 1) = ((c + bitAt x j : Nat) : Int) := by
  have hx := x.toNat_lt
  have e : ((x.toNat : Int) / 2 ^ j) = ((x.toNat / 2 ^ j : Nat) : Int) := by simp
  have hle : x.toNat / 2 ^ j ≤ x.toNat := Nat.div_le_self _ _
  unfold bitAt
  rw [e]
  generalize x.toNat / 2 ^ j = q at *
  rw [Go.IntWalk.wrap64_in (q : Int) (by omega), and_one' _ (by omega), Go.IntWalk.wrap64_in _ (by omega)]
  omega

/-- the number that the first j odd counts make -/
def bitsTo (ls : List (List UInt8)) (i : Nat) : Nat → Nat
  | 0 => 0
  | j + 1 => bitsTo ls i j + cntB ls i j % 2 * 2 ^ j

theorem bitsTo_lt (ls : List (List UInt8)) (i j : Nat) : bitsTo ls i j < 2 ^ j := by
  induction j with
  | zero => simp [bitsTo]
  | succ j ih =>
    simp only [bitsTo]
    have : cntB ls i j % 2 ≤ 1 := by omega
    have h2 : cntB ls i j % 2 * 2 ^ j ≤ 1 * 2 ^ j := Nat.mul_le_mul_right _ this
    rw [Nat.pow_succ]
    omega

theorem or_step {B c j : Nat} (hB : B < 2 ^ j) (hj : j < 8) : bits BinOp.or IntKind.u8 (B : Int) ((c : Int) % 2 * 2 ^ j % 256) = ((B + c % 2 * 2 ^ j : Nat) : Int) := by
  have hp : 2 ^ j ≤ 2 ^ 7 := Nat.pow_le_pow_right (by omega) (by omega)
  have h1 : c % 2 * 2 ^ j ≤ 1 * 2 ^ j := Nat.mul_le_mul_right _ (by omega)
  have e : ((c : Int) % 2 * 2 ^ j % 256) = ((c % 2 * 2 ^ j : Nat) : Int) := by
    have h2 : c % 2 * 2 ^ j % 256 = c % 2 * 2 ^ j := Nat.mod_eq_of_lt (by omega)
    have h3 : (((c % 2 * 2 ^ j % 256 : Nat)) : Int) = ((c % 2 * 2 ^ j : Nat) : Int) := by rw [h2]
    rw [← h3]
    simp
  rw [e, u8_or_nat _ _ (by omega) (by omega)]
  congr 1
  rw [Nat.or_comm, Nat.mul_comm, ← Nat.two_pow_add_eq_or_of_lt hB, Nat.add_comm]

theorem bitAt_xor (x y : UInt8) (j : Nat) : bitAt (x ^^^ y) j = (bitAt x j + bitAt y j) % 2 := by
  unfold bitAt
  have h : ∀ n : Nat, n / 2 ^ j % 2 = (n.testBit j).toNat := fun n => by rw [Nat.toNat_testBit]
  rw [h, h, h, UInt8.toNat_xor, Nat.testBit_xor]
  cases x.toNat.testBit j <;> cases y.toNat.testBit j <;> rfl

theorem xorl_get {xs ys : List UInt8} {i : Nat} (h1 : i < xs.length) (h2 : i < ys.length) : (xorl xs ys)[i]?.getD 0 = xs[i]?.getD 0 ^^^ ys[i]?.getD 0 := by
  simp [xorl, List.getElem?_zipWith, h1, h2]

theorem bitAt_sumTo {n : Nat} (acc : List UInt8) (ls : List (List UInt8)) (ha : acc.length = n) (hl : ∀ b ∈ ls, b.length = n) {i : Nat} (hi : i < n) (j : Nat) :
    bitAt ((sumTo acc ls)[i]?.getD 0) j = (bitAt (acc[i]?.getD 0) j + cntB ls i j) % 2 := by
  induction ls generalizing acc with
  | nil => have := bitAt_le (acc[i]?.getD 0) j; simp [sumTo, cntB]; omega
  | cons b r ih =>
    have hb := hl b (by simp)
    simp only [sumTo]
    rw [ih _ (by rw [xorl_length _ _ (by omega), ha]) (fun c hc => hl c (by simp [hc])), xorl_get (by omega) (by omega), bitAt_xor]
    have : cntB (b :: r) i j = bitAt (b[i]?.getD 0) j + cntB r i j := by simp [cntB]
    rw [this]
    omega

theorem byte_bits (x : UInt8) : x.toNat = bitAt x 0 * 1 + bitAt x 1 * 2 + bitAt x 2 * 4 + bitAt x 3 * 8 + bitAt x 4 * 16 + bitAt x 5 * 32 + bitAt x 6 * 64 + bitAt x 7 * 128 := by
  have := x.toNat_lt
  simp only [bitAt, Nat.reducePow]
  omega

theorem bitsTo_sum {n : Nat} (ls : List (List UInt8)) (hl : ∀ b ∈ ls, b.length = n) {i : Nat} (hi : i < n) : bitsTo ls i 8 = ((sumTo (zeros n) ls)[i]?.getD 0).toNat := by
  have hb : ∀ j, bitAt ((sumTo (zeros n) ls)[i]?.getD 0) j = cntB ls i j % 2 := fun j => by
    rw [bitAt_sumTo (n := n) (zeros n) ls (by simp [zeros]) hl hi j]
    simp [zeros, hi, bitAt]
  rw [byte_bits, hb, hb, hb, hb, hb, hb, hb, hb]
  simp [bitsTo]

theorem all_len {bl : List Blk} {n : Nat} (HL : Hid (∀ i (hi : i < bl.length), bl[i].l.length = n)) : ∀ b ∈ bl.map Blk.l, b.length = n := by
  intro b hb
  obtain ⟨c, hc, rfl⟩ := List.mem_map.1 hb
  obtain ⟨i, hi, rfl⟩ := List.mem_iff_getElem.1 hc
  exact HL.out i hi

theorem sumBl_zeros {bl : List Blk} {n : Nat} (h0 : 0 < bl.length) (HL : Hid (∀ i (hi : i < bl.length), bl[i].l.length = n)) : sumBl bl = sumTo (zeros n) (bl.map Blk.l) := by
  have := HL.out 0 h0
  cases bl with
  | nil => simp at h0
  | cons b r => simp at this; simp [sumBl, sumOf, this]

theorem sumBl_len {bl : List Blk} {n : Nat} (h0 : 0 < bl.length) (HL : Hid (∀ i (hi : i < bl.length), bl[i].l.length = n)) : (sumBl bl).length = n := by
  rw [sumBl_zeros h0 HL]
  exact sumTo_length _ _ (by simp [zeros]) (all_len HL)

theorem sum_step {w wr w1 : World} {v v' : Value} {bl : List Blk} {n k : Nat} (h0 : 0 < bl.length) (HL : Hid (∀ i (hi : i < bl.length), bl[i].l.length = n)) (hlt : k < n) (hB : w.heap.size ≤ wr.heap.size) (hb : Below w.heap.size w wr)
    (ho : wr.ownsRow w.heap.size 5 1 v k ((bs (sumBl bl)).take k)) (o : Obj)
    (ho' : w1.ownsRow w.heap.size 5 1 v' (k + 1) ((bs (sumBl bl)).take k ++ [.int .u8 (bitsTo (bl.map Blk.l) k 8 : Int)])) (hg : (wr.alloc o).grownBy w1 v.ownBlock) :
    w1.ownsRow w.heap.size 5 1 v' (k + 1) ((bs (sumBl bl)).take (k + 1)) ∧ Below w.heap.size w w1 := by
  have hl := sumBl_len h0 HL
  refine ⟨?_, ?_⟩
  · rw [List.take_succ_eq_append_getElem (by rw [bs_length]; omega)]
    have e : (bs (sumBl bl))[k]'(by rw [bs_length]; omega) = .int .u8 (bitsTo (bl.map Blk.l) k 8 : Int) := by
      rw [bitsTo_sum (n := n) _ (all_len HL) hlt, ← sumBl_zeros h0 HL]
      simp [bs, show k < (sumBl bl).length by omega]
    rw [e]
    exact ho'
  · refine (hb.alloc hB o).grown hg (by simp; omega) ?_
    intro g hg'
    exact (ho.lt g hg').1

end Go.Proofs.YtpmgmddicbpgjaaDoor

/-
  The reference's 'both': its contract.
-/
namespace Go.Proofs.YtpmgmddicbpgjaaDoor
open Go.RowKit
set_option linter.unusedVariables false
set_option linter.unusedSimpArgs false

theorem infoBool : (Tryd.prog.info? 4).map (fun i => (i.zero, i.size, i.bytes)) = some (some (.bool false), 1, 1) := by kernel_rfl

/-- what just one of both has -/
def xorH (a b : List Bool) : List Bool := List.zipWith (fun x y => x != y) a b

theorem xorH_length {a b : List Bool} (h : b.length = a.length) : (xorH a b).length = a.length := by simp [xorH, h]

theorem cellA' {w : World} {b o : Nat} {v : Value} (h : w.cell? ⟨b, o, none⟩ = some v) (ob : Obj) : (w.alloc ob).cell? ⟨b, o, none⟩ = some v := by
  have := World.block_lt_of_cell? w _ h
  rw [(bcell ((Below.refl w.heap.size w).alloc (Nat.le_refl _) ob)).1 b o this]
  exact h

theorem frozenA {w : World} {b o : Nat} (h : w.frozen? ⟨b, o, none⟩ = false) (hb : b < w.heap.size) (ob : Obj) : (w.alloc ob).frozen? ⟨b, o, none⟩ = false := by
  rw [(bcell ((Below.refl w.heap.size w).alloc (Nat.le_refl _) ob)).2 b o hb]
  exact h

theorem set2' {w1 : World} {g : Nat} {u v : Value} (h0 : w1.cell? ⟨g, 0, none⟩ = some u) (h1 : w1.cell? ⟨g, 1, none⟩ = some v) (u' v' : Value) :
    ((w1.setCell ⟨g, 0, none⟩ u').setCell ⟨g, 1, none⟩ v').cell? ⟨g, 0, none⟩ = some u' ∧ ((w1.setCell ⟨g, 0, none⟩ u').setCell ⟨g, 1, none⟩ v').cell? ⟨g, 1, none⟩ = some v' := by
  have e0 : (w1.setCell ⟨g, 0, none⟩ u').cell? ⟨g, 0, none⟩ = some u' := World.cell?_setCell_same _ _ _ h0
  have e1 : (w1.setCell ⟨g, 0, none⟩ u').cell? ⟨g, 1, none⟩ = some v := by rw [World.cell?_setCell_other _ _ _ _ (by intro e; cases e)]; exact h1
  exact ⟨by rw [World.cell?_setCell_other _ _ _ _ (by intro e; cases e)]; exact e0, World.cell?_setCell_same _ _ _ e1⟩

theorem own_set {w : World} {B b o : Nat} {e : TypeId} {v u : Value} {n : Nat} {xs : List Value} (h : w.ownsRow B e 1 v n xs) (hb : b < B) : (w.setCell ⟨b, o, none⟩ u).ownsRow B e 1 v n xs := by
  refine ⟨h.1, ?_⟩
  rcases h.2 with h0 | ⟨g, cap, cur, rfl, hbg, hg, hnc, hcm, hcs, htake⟩
  · exact .inl h0
  · exact .inr ⟨g, cap, cur, rfl, hbg, by rw [Below.heap_setCell _ _ _ _ (by simp; omega)]; exact hg, hnc, hcm, hcs, htake⟩

theorem alloc4 (w : World) (o0 o1 o2 o3 : Obj) : ((((w.alloc o0).alloc o1).alloc o2).alloc o3).heap[w.heap.size]? = some o0 ∧ ((((w.alloc o0).alloc o1).alloc o2).alloc o3).heap[w.heap.size + 1]? = some o1 ∧
    ((((w.alloc o0).alloc o1).alloc o2).alloc o3).heap[w.heap.size + 1 + 1]? = some o2 ∧ ((((w.alloc o0).alloc o1).alloc o2).alloc o3).heap[w.heap.size + 1 + 1 + 1]? = some o3 := by
  simp only [heap_alloc_eq, size_alloc_eq]
  refine ⟨?_, ?_, ?_, ?_⟩
  · rw [if_neg (by omega), if_neg (by omega), if_neg (by omega), if_pos (by first | omega | trivial)]
  · rw [if_neg (by omega), if_neg (by omega), if_pos (by first | omega | trivial)]
  · rw [if_neg (by omega), if_pos (by first | omega | trivial)]
  · rw [if_pos (by first | omega | trivial)]

/-- the sum in the making; g: its box -/
def BothInv (W0 wr : World) (g : Nat) (x y : List Bool) (q : Nat) : Prop :=
  Below g W0 wr ∧ g < wr.heap.size ∧ (∃ v, wr.cell? ⟨g, 0, none⟩ = some v ∧ wr.ownsRow (g + 1) 4 1 v q (((xorH x y).map Value.bool).take q)) ∧ wr.cell? ⟨g, 1, none⟩ = some (.slice none 0 0) ∧ (∀ j, wr.frozen? ⟨g, j, none⟩ = false)

theorem BothInv.next {W0 wr w1 : World} {g q cap g' : Nat} {x y : List Bool} {v u : Value} {o : Obj} (hI : BothInv W0 wr g x y q) (hx : ((xorH x y).map Value.bool).take (q + 1) = ((xorH x y).map Value.bool).take q ++ [u]) (hg : g + 1 ≤ wr.heap.size)
    (ho : w1.ownsRow (g + 1) 4 1 (.slice (some ⟨g', 0, none⟩) (q + 1) cap) (q + 1) (((xorH x y).map Value.bool).take q ++ [u])) (hgr : ((wr.alloc o).drew).grownBy w1 v.ownBlock) (hv : wr.cell? ⟨g, 0, none⟩ = some v) (hvb : some g ≠ v.ownBlock) (hlo : ∀ b, v.ownBlock = some b → g < b) :
    BothInv W0 (w1.setCell ⟨g, 0, none⟩ (.slice (some ⟨g', 0, none⟩) (q + 1) cap)) g x y (q + 1) := by
  obtain ⟨i1, i2, ⟨v0, i3, i4⟩, i5, i6⟩ := hI
  have hb1 : Below wr.heap.size wr (wr.alloc o).drew := ((Below.refl _ _).alloc (Nat.le_refl _) o).drew
  have e0 : w1.cell? ⟨g, 0, none⟩ = some v := (hgr.cell_far ⟨g, 0, none⟩ (by simp; omega) hvb).trans (((bcell hb1).1 g 0 i2).trans hv)
  have e1 : w1.cell? ⟨g, 1, none⟩ = some (.slice none 0 0) := (hgr.cell_far ⟨g, 1, none⟩ (by simp; omega) hvb).trans (((bcell hb1).1 g 1 i2).trans i5)
  have e2 : ∀ j, w1.frozen? ⟨g, j, none⟩ = false := fun j => (hgr.frozen_far ⟨g, j, none⟩ (by simp; omega) hvb).trans (((bcell hb1).2 g j i2).trans (i6 j))
  refine ⟨?_, ?_, ⟨_, World.cell?_setCell_same _ _ _ e0, ?_⟩, ?_, fun j => by simpa using e2 j⟩
  · refine Below.setCell ?_ (by simp) _
    refine (i1.trans (hb1.mono (by omega))).grown hgr (by have := i1.size; simp; omega) fun b hb => by have := hlo b hb; omega
  · have := hgr.size
    simp at this ⊢
    omega
  · rw [hx]
    exact own_set ho (by omega)
  · rw [World.cell?_setCell_other _ _ _ _ (by intro e; cases e)]; exact e1

end Go.Proofs.YtpmgmddicbpgjaaDoor

/-
  Rows in a list of one's own; a row of it is turned.
-/
namespace Go.Proofs.YtpmgmddicbpgjaaDoor
open Go.RowKit
set_option linter.unusedVariables false
set_option linter.unusedSimpArgs false

/-- rows that lie in a block, all of which may be written -/
def RowsAt (w : World) (g : Nat) (R : List MRow) : Prop := Lies w (some ⟨g, 0, none⟩) (rowCells R) ∧ ∀ j, w.frozen? ⟨g, j, none⟩ = false

theorem RowsAt.cells {w : World} {g j : Nat} {R : List MRow} (h : RowsAt w g R) (hj : j < R.length) : w.cell? ⟨g, j * 2, none⟩ = some R[j].hv ∧ w.cell? ⟨g, j * 2 + 1, none⟩ = some R[j].dv := by
  have := row_at h.1 hj
  simpa using this

theorem RowsAt.of {w : World} {g : Nat} {R : List MRow} (h : ∀ j (hj : j < R.length), w.cell? ⟨g, j * 2, none⟩ = some R[j].hv ∧ w.cell? ⟨g, j * 2 + 1, none⟩ = some R[j].dv) (hf : ∀ j, w.frozen? ⟨g, j, none⟩ = false) : RowsAt w g R := by
  refine ⟨?_, hf⟩
  intro k u hu
  have hk : k < 2 * R.length := by
    have := (List.getElem?_eq_some_iff.1 hu).1
    rwa [rowCells_length] at this
  obtain ⟨c0, c1⟩ := rowCells_get (l := R) (j := k / 2) (by omega)
  obtain ⟨h0, h1⟩ := h (k / 2) (by omega)
  refine ⟨g, 0, rfl, ?_⟩
  rcases Nat.mod_two_eq_zero_or_one k with e | e
  · rw [show 2 * (k / 2) = k by omega, hu] at c0
    rw [show 0 + k = k / 2 * 2 by omega, h0, c0]
  · rw [show 2 * (k / 2) + 1 = k by omega, hu] at c1
    rw [show 0 + k = k / 2 * 2 + 1 by omega, h1, c1]

theorem RowsAt.set {w : World} {g i : Nat} {R : List MRow} (h : RowsAt w g R) (hi : i < R.length) (r : MRow) : RowsAt ((w.setCell ⟨g, i * 2, none⟩ r.hv).setCell ⟨g, i * 2 + 1, none⟩ r.dv) g (R.set i r) := by
  refine RowsAt.of ?_ (fun j => by simpa using h.2 j)
  intro j hj
  simp only [List.length_set] at hj
  obtain ⟨c0, c1⟩ := h.cells hj
  obtain ⟨d0, d1⟩ := h.cells hi
  by_cases e : j = i
  · subst e
    rw [List.getElem_set_self]
    refine ⟨?_, ?_⟩
    · rw [World.cell?_setCell_other _ _ _ _ (by intro e; injection e; omega)]
      exact World.cell?_setCell_same _ _ _ d0
    · have d2 : (w.setCell ⟨g, j * 2, none⟩ r.hv).cell? ⟨g, j * 2 + 1, none⟩ = some R[j].dv := by
        rw [World.cell?_setCell_other _ _ _ _ (by intro e; injection e; omega)]
        exact d1
      exact World.cell?_setCell_same _ _ _ d2
  · rw [List.getElem_set_ne (Ne.symm e)]
    refine ⟨?_, ?_⟩
    · rw [World.cell?_setCell_other _ _ _ _ (by intro e'; injection e'; omega), World.cell?_setCell_other _ _ _ _ (by intro e'; injection e'; omega)]
      exact c0
    · rw [World.cell?_setCell_other _ _ _ _ (by intro e'; injection e'; omega), World.cell?_setCell_other _ _ _ _ (by intro e'; injection e'; omega)]
      exact c1

theorem RowsAt.below {w w' : World} {g : Nat} {R : List MRow} (h : RowsAt w g R) (hb : Below w.heap.size w w') (hg : g < w.heap.size) : RowsAt w' g R :=
  ⟨h.1.below hb (Nat.le_refl _), fun j => by rw [hb.frozen (p := ⟨g, j, none⟩) hg]; exact h.2 j⟩

theorem rows_own {w : World} {B g N cap : Nat} {e : TypeId} {R : List MRow} (h : w.ownsRow B e 2 (.slice (some ⟨g, 0, none⟩) N cap) N (rowCells R)) : RowsAt w g R ∧ B ≤ g ∧ g < w.heap.size ∧ R.length = N ∧ N ≤ cap := by
  obtain ⟨h1, h2 | ⟨g', cap', cur, hv, hb, hg, hn, hc, hs, ht⟩⟩ := h
  · cases h2.1
  · cases hv
    have hlt : g < w.heap.size := by
      rcases Nat.lt_or_ge g w.heap.size with h | h
      · exact h
      · rw [Array.getElem?_eq_none h] at hg; cases hg
    have hl : R.length = N := by rw [rowCells_length] at h1; omega
    refine ⟨RowsAt.of ?_ (fun j => by simp [World.frozen?, hg]), hb, hlt, hl, hn⟩
    intro j hj
    obtain ⟨c0, c1⟩ := rowCells_get hj
    rw [← ht] at c0 c1
    rw [List.getElem?_take, if_pos (by omega)] at c0 c1
    have e0 : cur[j * 2]? = some R[j].hv := by rw [← Array.getElem?_toList, Nat.mul_comm]; exact c0
    have e1 : cur[j * 2 + 1]? = some R[j].dv := by rw [← Array.getElem?_toList, Nat.mul_comm]; exact c1
    exact ⟨by simp [World.cell?, hg, e0], by simp [World.cell?, hg, e1]⟩

end Go.Proofs.YtpmgmddicbpgjaaDoor
