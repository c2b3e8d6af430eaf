import Derived.Test.YtakkajjoeimkdaaGreatDoorPart6
import Derived.Test.YtakkajjoeimkdaaGreatDoorPart5
namespace Go.Proofs.YtakkajjoeimkdaaGreatDoor
open Go.RowKit
set_option linter.unusedVariables false
set_option linter.unusedSimpArgs false

def lowL (A : List LRow) (f : Int) : List LRow := A.takeWhile fun s => decide (firstI s.1 < f)
def highL (A : List LRow) (f : Int) : List LRow := A.dropWhile fun s => decide (firstI s.1 < f)

theorem low_high (A : List LRow) (f : Int) : lowL A f ++ highL A f = A := List.takeWhile_append_dropWhile

def addL (A : List LRow) (r : LRow) : Option (List LRow) :=
 if firstI (redL A r).1 = -1 then (if (redL A r).2.all (· == 0) = true then some A else none) else some (insL (lowL A (firstI (redL A r).1)) (highL A (firstI (redL A r).1)) (redL A r))

theorem nought_of {n k : Nat} {p : LRow} (hp : Fits n k p) (h : firstI p.1 = -1) (hz : p.2.all (· == 0) = true) : LRow.v p = V.o := by
 refine V.ext' (fun j => firstI_no.1 h j) (fun j => ?_)
 show p.2.getD j 0 = 0
 by_cases hj : j < p.2.length
 ·have := List.all_eq_true.1 hz _ (List.getElem_mem hj)
  rw [List.getD_eq_getElem?_getD, List.getElem?_eq_getElem hj]
  simpa using this
 ·rw [List.getD_eq_getElem?_getD, List.getElem?_eq_none (by omega)]
  rfl

theorem not_nought {p : LRow} (h : LRow.v p = V.o) : firstI p.1 = -1 ∧ p.2.all (· == 0) = true := by
 refine ⟨firstI_no.2 fun j => by rw [h]; rfl, List.all_eq_true.2 fun x hx => ?_⟩
 obtain ⟨i, hi, rfl⟩ := List.getElem_of_mem hx
 have : (LRow.v p).dat i = 0 := by rw [h]; rfl
 have e : (LRow.v p).dat i = p.2[i] := by
  show p.2.getD i 0 = _
  rw [List.getD_eq_getElem?_getD, List.getElem?_eq_getElem hi]
  rfl
 rw [e] at this
 simpa using this

theorem Right.split {n k f : Nat} {A : List LRow} (h : Right n k A) (hf : ∀ s ∈ A, firstI s.1 ≠ f) : (∀ s ∈ lowL A f, firstI s.1 < f) ∧ ∀ s ∈ highL A f, (f : Int) < firstI s.1 := by
 refine ⟨fun s hs => by simpa using List.all_eq_true.1 (List.all_takeWhile (p := fun s : LRow => decide (firstI s.1 < f)) (l := A)) s hs, ?_⟩
 intro s hs
 have hmem : ∀ x ∈ highL A f, x ∈ A := fun x hx => by rw [← low_high A f]; exact List.mem_append_right _ hx
 cases hY : highL A f with
 | nil => rw [hY] at hs; cases hs
 | cons y Y =>
  have hy : ¬ firstI y.1 < f := by
   have := List.head_dropWhile_not (fun s : LRow => decide (firstI s.1 < f)) (l := A) (by show highL A f ≠ []; rw [hY]; simp)
   have e : (List.dropWhile (fun s : LRow => decide (firstI s.1 < f)) A).head (by show highL A f ≠ []; rw [hY]; simp) = y := by
    have h2 : List.dropWhile (fun s : LRow => decide (firstI s.1 < f)) A = y :: Y := hY
    simp [h2]
   rw [e] at this
   simpa using this
  have hyA : y ∈ A := hmem y (by rw [hY]; exact List.mem_cons_self)
  have hy2 : (f : Int) < firstI y.1 := by have := hf y hyA; omega
  rw [hY] at hs
  rcases List.mem_cons.1 hs with rfl | hs
  ·exact hy2
  ·have hp := h.sys.pair
   rw [← low_high A f, hY, List.map_append] at hp
   have hp2 := (List.pairwise_append.1 hp).2.1
   rw [List.map_cons] at hp2
   obtain ⟨a, b, ha, hb, hab, _⟩ := (List.pairwise_cons.1 hp2).1 _ (List.mem_map_of_mem hs)
   have e1 := firstI_lead.2 ha
   have e2 := firstI_lead.2 hb
   omega

theorem Right.left {n k f : Nat} {A : List LRow} (h : Right n k A) {r : LRow} (hr : Fits n k r) (hf : firstI (Go.Proofs.YtakkajjoeimkdaaGreatDoor.redL A r).1 = f) : ∀ s ∈ A, firstI s.1 ≠ f := by
 intro s hs e
 have h1 : Lead (LRow.v s) f := firstI_lead.1 e
 have h2 : Lead (LRow.v (Go.Proofs.YtakkajjoeimkdaaGreatDoor.redL A r)) f := firstI_lead.1 hf
 have h3 := red_clear h.sys h.of (LRow.v r) _ (List.mem_map_of_mem hs) f h1
 rw [← h.redL hr, h2.1] at h3
 cases h3

theorem addL_right {n k : Nat} {A P : List LRow} {r : LRow} (h : Right n k A) (hr : Fits n k r) (ha : addL A r = some P) : Right n k P ∧ ∀ v, Span (P.map LRow.v) v ↔ Span ((A ++ [r]).map LRow.v) v := by
 unfold addL at ha
 by_cases h1 : firstI (redL A r).1 = -1
 ·rw [if_pos h1] at ha
  by_cases h2 : (redL A r).2.all (· == 0) = true
  ·rw [if_pos h2] at ha
   cases ha
   refine ⟨h, fun v => ?_⟩
   have h0 := nought_of (redL_fits h.fits hr) h1 h2
   rw [h.redL hr] at h0
   have hs := red_span n (A.map LRow.v) (LRow.v r)
   rw [h0, V.o_add] at hs
   rw [List.map_append]
   constructor
   ·intro hv; exact hv.mono fun x hx => List.mem_append_left _ hx
   ·intro hv
    refine hv.sub fun x hx => ?_
    rcases List.mem_append.1 hx with hx | hx
    ·exact .mem hx
    ·simp at hx
     rw [hx]
     exact hs
  ·rw [if_neg h2] at ha
   cases ha
 ·rw [if_neg h1] at ha
  cases ha
  obtain ⟨f, hf⟩ : ∃ f : Nat, firstI (redL A r).1 = f := by
   rcases firstI_range (redL A r).1 with e | ⟨f, e, _⟩
   ·exact absurd e h1
   ·exact ⟨f, e⟩
  obtain ⟨hX, hY⟩ := h.split (h.left hr hf)
  have hA : Right n k (lowL A f ++ highL A f) := by rw [low_high]; exact h
  have := hA.insL hr (p := redL A r) (by rw [low_high]) hf hX hY
  rw [low_high] at this
  rw [hf]
  exact this

theorem addL_true {n k : Nat} {A : List LRow} {B : Nat → Nat → UInt8} {r : LRow} (h : Right n k A) (hT : ∀ s ∈ A, Tr n B (LRow.v s)) (hr : Fits n k r) (ht : Tr n B (LRow.v r)) : ∃ P, addL A r = some P ∧ ∀ s ∈ P, Tr n B (LRow.v s) := by
 have hsome : ∃ P, addL A r = some P := by
  unfold addL
  by_cases h1 : firstI (redL A r).1 = -1
  ·have h2 := (red_true h hT hr ht).none (firstI_no.1 h1)
   rw [if_pos h1, if_pos (not_nought h2).2]
   exact ⟨_, rfl⟩
  ·rw [if_neg h1]
   exact ⟨_, rfl⟩
 obtain ⟨P, hP⟩ := hsome
 refine ⟨P, hP, fun s hs => ?_⟩
 have hsp := (addL_right h hr hP).2 (LRow.v s)
 have := hsp.1 (.mem (List.mem_map_of_mem hs))
 refine this.tr fun x hx => ?_
 rw [List.map_append] at hx
 rcases List.mem_append.1 hx with hx | hx
 ·obtain ⟨t, ht', rfl⟩ := List.mem_map.1 hx
  exact hT t ht'
 ·simp at hx
  rw [hx]
  exact ht

def blkAt (k : Nat) (c : List UInt8) (j t : Nat) : UInt8 := (piece k j c).getD t 0

noncomputable def maskL (nb i : Nat) : List Bool := (List.range nb).map (mask (chosen nb i))

noncomputable def symRow (nb k : Nat) (c : List UInt8) (i : Nat) : LRow := (maskL nb i, symL nb k c i)

theorem maskL_length (nb i : Nat) : (maskL nb i).length = nb := by simp [maskL]

theorem symRow_fits (nb k : Nat) (c : List UInt8) (i : Nat) : Fits nb k (symRow nb k c i) := ⟨maskL_length nb i, symL_length nb k c i⟩

theorem maskL_has {nb i : Nat} (d : List UInt8) (h1 : 1 ≤ nb) (hb : nb ≤ 24) (j : Nat) : (LRow.v (maskL nb i, d)).has j = mask (chosen nb i) j := by
 show (maskL nb i).getD j false = _
 unfold maskL
 rw [List.getD_eq_getElem?_getD, List.getElem?_map]
 by_cases hj : j < nb
 ·rw [List.getElem?_range hj]; rfl
 ·rw [List.getElem?_eq_none (by simp; omega)]
  symm
  show mask (chosen nb i) j = false
  simp only [mask, decide_eq_false_iff_not]
  intro hm
  exact hj (chosen_lt h1 hb j hm)

theorem sumAt_zero {B : Nat → Nat → UInt8} {h : Nat → Bool} {n t : Nat} (hB : ∀ j, B j t = 0) : sumAt B h n t = 0 := by
 rw [sumAt_congr (B' := fun _ _ => 0) fun j _ => hB j]
 induction n with
 | zero => rfl
 | succ n ih => rw [sumAt, ih]; cases h n <;> rfl

theorem symRow_true {nb k : Nat} {c : List UInt8} {i : Nat} (h1 : 1 ≤ nb) (hb : nb ≤ 24) : Tr nb (blkAt k c) (LRow.v (symRow nb k c i)) := by
 intro t
 have e : (LRow.v (symRow nb k c i)).has = mask (chosen nb i) := funext fun j => maskL_has _ h1 hb j
 rw [e]
 show (symL nb k c i).getD t 0 = _
 by_cases ht : t < k
 ·rw [getD_of (by rw [symL_length]; exact ht)]
  simp only [symL, List.getElem_map, List.getElem_range]
  rfl
 ·rw [List.getD_eq_getElem?_getD, List.getElem?_eq_none (by rw [symL_length]; omega)]
  symm
  refine sumAt_zero fun j => ?_
  show (piece k j c).getD t 0 = 0
  rw [piece_getD, if_neg ht]

def addAll (A : List LRow) : List LRow → Option (List LRow)
 | [] => some A
 | r :: l => (addL A r).bind fun P => addAll P l

theorem addAll_right {n k : Nat} : ∀ {l A P : List LRow}, Right n k A → (∀ r ∈ l, Fits n k r) → addAll A l = some P → Right n k P ∧ ∀ v, Span (P.map LRow.v) v ↔ Span ((A ++ l).map LRow.v) v := by
 intro l
 induction l with
 | nil => intro A P h _ ha; cases ha; exact ⟨h, fun v => by simp⟩
 | cons r l ih =>
  intro A P h hl ha
  simp only [addAll] at ha
  cases hA : addL A r with
  | none => rw [hA] at ha; cases ha
  | some Q =>
   rw [hA] at ha
   obtain ⟨q1, q2⟩ := addL_right h (hl r List.mem_cons_self) hA
   obtain ⟨p1, p2⟩ := ih q1 (fun x hx => hl x (List.mem_cons_of_mem _ hx)) ha
   refine ⟨p1, fun v => (p2 v).trans ?_⟩
   have key : ∀ (S T : List V), (∀ v, Span S v ↔ Span T v) → ∀ (U : List V) v, Span (S ++ U) v → Span (T ++ U) v := by
    intro S T hST U v hv
    refine hv.sub fun x hx => ?_
    rcases List.mem_append.1 hx with hx | hx
    ·exact ((hST x).1 (.mem hx)).mono fun y hy => List.mem_append_left _ hy
    ·exact .mem (List.mem_append_right _ hx)
   rw [List.map_append, show A ++ r :: l = (A ++ [r]) ++ l by simp, List.map_append (l₁ := A ++ [r])]
   exact ⟨key _ _ q2 _ v, key _ _ (fun v => (q2 v).symm) _ v⟩

theorem addAll_true {n k : Nat} {B : Nat → Nat → UInt8} : ∀ {l A : List LRow}, Right n k A → (∀ s ∈ A, Tr n B (LRow.v s)) → (∀ r ∈ l, Fits n k r ∧ Tr n B (LRow.v r)) → ∃ P, addAll A l = some P ∧ ∀ s ∈ P, Tr n B (LRow.v s) := by
 intro l
 induction l with
 | nil => intro A _ hT _; exact ⟨A, rfl, hT⟩
 | cons r l ih =>
  intro A h hT hl
  obtain ⟨Q, hQ, hQT⟩ := addL_true h hT (hl r List.mem_cons_self).1 (hl r List.mem_cons_self).2
  obtain ⟨P, hP, hPT⟩ := ih (addL_right h (hl r List.mem_cons_self).1 hQ).1 hQT (fun x hx => hl x (List.mem_cons_of_mem _ hx))
  exact ⟨P, by simp only [addAll, hQ]; exact hP, hPT⟩

theorem Right.uniq {n k : Nat} {P Q : List LRow} (hP : Right n k P) (hQ : Right n k Q) (h : ∀ v, Span (P.map LRow.v) v ↔ Span (Q.map LRow.v) v) : P = Q :=
 rows_inj hP.fits hQ.fits (hP.sys.uniq hQ.sys h)

abbrev LSym := Int × List UInt8

noncomputable def rowOf (nb : Nat) (y : LSym) : LRow := (maskL nb y.1.toNat, y.2)

noncomputable def stepL (B K : Int) (nb : Nat) (A : List LRow) (y : LSym) : Int × List LRow :=
 if chkS B K y.1 y.2.length ≠ 0 then (chkS B K y.1 y.2.length, []) else match addL A (rowOf nb y) with
  | none => (9, [])
  | some P => (0, P)

noncomputable def allL (B K : Int) (nb : Nat) : List LRow → List LSym → Int × List LRow
 | A, [] => (0, A)
 | A, y :: l => if (stepL B K nb A y).1 ≠ 0 then ((stepL B K nb A y).1, []) else allL B K nb (stepL B K nb A y).2 l

noncomputable def decCode (B K : Int) (l : List LSym) : Int :=
 if chkP B K ≠ 0 then chkP B K else if 60 < l.length then 2 else if (allL B K (nB B K).toNat [] l).1 ≠ 0 then (allL B K (nB B K).toNat [] l).1 else
  if (allL B K (nB B K).toNat [] l).2.length < (nB B K).toNat then 8 else joinCode B K (knownL (nB B K).toNat (allL B K (nB B K).toNat [] l).2)

noncomputable def decRes (B K : Int) (l : List LSym) : List UInt8 :=
 if chkP B K ≠ 0 then [] else if 60 < l.length then [] else if (allL B K (nB B K).toNat [] l).1 ≠ 0 then [] else
  if (allL B K (nB B K).toNat [] l).2.length < (nB B K).toNat then [] else joinRes B K (knownL (nB B K).toNat (allL B K (nB B K).toNat [] l).2)

theorem stepL_chk {B K : Int} {nb : Nat} {A : List LRow} {y : LSym} (h : chkS B K y.1 y.2.length ≠ 0) : stepL B K nb A y = (chkS B K y.1 y.2.length, []) := if_pos h
theorem stepL_torn {B K : Int} {nb : Nat} {A : List LRow} {y : LSym} (h : chkS B K y.1 y.2.length = 0) (ha : addL A (rowOf nb y) = none) : stepL B K nb A y = (9, []) := by
 unfold stepL
 rw [if_neg (by rw [h]; simp), ha]
theorem stepL_ok {B K : Int} {nb : Nat} {A P : List LRow} {y : LSym} (h : chkS B K y.1 y.2.length = 0) (ha : addL A (rowOf nb y) = some P) : stepL B K nb A y = (0, P) := by
 unfold stepL
 rw [if_neg (by rw [h]; simp), ha]

theorem allL_bad {B K : Int} {nb : Nat} {A : List LRow} {y : LSym} {l : List LSym} (h : (stepL B K nb A y).1 ≠ 0) : allL B K nb A (y :: l) = ((stepL B K nb A y).1, []) := if_pos h
theorem allL_go {B K : Int} {nb : Nat} {A : List LRow} {y : LSym} {l : List LSym} (h : (stepL B K nb A y).1 = 0) : allL B K nb A (y :: l) = allL B K nb (stepL B K nb A y).2 l := if_neg (by rw [h]; simp)

theorem chkS_zero {B K id : Int} {m n k nb : Nat} (g : Good B K n k nb) (h : chkS B K id m = 0) : ∃ i : Nat, id = i ∧ i ≤ 9999 ∧ m = k := by
 have hp := chkP_good g
 unfold chkS at h
 rw [if_neg (by rw [hp]; simp)] at h
 split at h
 ·omega
 ·rename_i h1
  split at h
  ·omega
  ·rename_i h2
   refine ⟨id.toNat, by omega, by omega, ?_⟩
   have := g.eK
   omega

structure Kp where
 h : Hd
 own : Bool
 c : List UInt8
 ss : List LSym
 sh : Int
 gv : Int
 tw : Int
 tr : Int
 tk : List (Int × Int)
 dl : Bool
 pg : Bool

structure Pl where
 me : Int
 kp : List Kp
 tm : Int
 sq : Int

def pl0 : Pl := ⟨0, [], 0, 0⟩

def symsFrom (B K : Int) (a : List LSym) : List LSym → Int
 | [] => 0
 | y :: l => if chkS B K y.1 y.2.length ≠ 0 then chkS B K y.1 y.2.length else if a.any (fun s => s.1 == y.1) then 6 else symsFrom B K (a ++ [y]) l

def tookFrom (a : List (Int × Int)) : List (Int × Int) → Int
 | [] => 0
 | t :: l => if ¬ ((0 ≤ t.1 ∧ t.1 ≤ 3) ∧ (1 ≤ t.2 ∧ t.2 ≤ 9999)) then 3 else if t ∈ a then 6 else tookFrom (a ++ [t]) l

def Kp.owned (me : Int) (k : Kp) : Bool := (k.own == (k.h.F == me)) && (k.own && (decide ((k.c.length : Int) = k.h.B) && decide (k.ss.length = 0)) || !k.own && decide (k.c.length = 0))

def Kp.done (k : Kp) : Bool := k.dl || k.pg

def Kp.shares (me : Int) (k : Kp) : Int :=
 if ¬ ((0 ≤ k.sh ∧ k.sh ≤ 64) ∧ (0 ≤ k.gv ∧ k.gv ≤ 64) ∧ (0 ≤ k.tw ∧ k.tw ≤ 3) ∧ (0 ≤ k.tr ∧ k.tr ≤ 9999)) then 3
 else if (k.gv = 0 ∧ k.tw ≠ 0) ∨ (k.gv ≠ 0 ∧ (k.tw = me ∨ k.tr = 0)) then 4 else 0

def Kp.doneOk (me : Int) (k : Kp) : Bool := !(k.dl && (!(k.h.T == me) || k.pg)) && (!k.done || (decide (k.ss.length = 0) && k.sh == 0 && k.gv == 0))

def Kp.code (me tm sq : Int) (k : Kp) : Int :=
 if hdCode k.h ≠ 0 then hdCode k.h
 else if k.h.L ≤ tm then 7
 else if ¬ k.owned me = true then 4
 else if 60 < k.ss.length ∨ 40 < k.tk.length then 2
 else if symsFrom k.h.B k.h.K [] k.ss ≠ 0 then symsFrom k.h.B k.h.K [] k.ss
 else if k.shares me ≠ 0 then k.shares me
 else if tookFrom [] k.tk ≠ 0 then tookFrom [] k.tk
 else if ¬ k.doneOk me = true ∨ (k.own = true ∧ sq ≤ k.h.Q) then 4 else 0

def Hd.ahead (a b : Hd) : Bool := decide (a.F < b.F) || (a.F == b.F && decide (a.Q < b.Q))

def behind : Option Hd → Hd → Bool
 | none, _ => true
 | some a, h => a.ahead h

def keptFrom (me tm sq : Int) (p : Option Hd) : List Kp → Int
 | [] => 0
 | k :: l => if k.code me tm sq ≠ 0 then k.code me tm sq else if ¬ behind p k.h = true then 6 else keptFrom me tm sq (some k.h) l

def Pl.code (p : Pl) : Int :=
 if ¬ ((0 ≤ p.me ∧ p.me ≤ 3) ∧ (0 ≤ p.tm ∧ p.tm ≤ 1000000) ∧ (0 ≤ p.sq ∧ p.sq ≤ 50)) then 3
 else if 12 < p.kp.length then 2 else keptFrom p.me p.tm p.sq none p.kp

def findL (l : List Kp) (f q : Int) : Option Nat := l.findIdx? (fun k => k.h.F == f && k.h.Q == q)

def findI (l : List Kp) (f q : Int) : Int := match findL l f q with
 | none => -1
 | some i => i

def kp0 (h : Hd) : Kp := ⟨h, false, [], [], 0, 0, 0, 0, [], false, false⟩

def placeOf (l : List Kp) (h : Hd) : Nat := (l.findIdx? (fun o => h.ahead o.h)).getD l.length

def insK (l : List Kp) (i : Nat) (k : Kp) : List Kp := l.take i ++ k :: l.drop i

def Kp.over (k : Kp) : Kp := { k with ss := [], sh := 0, gv := 0, tw := 0 }

def Kp.keep (k : Kp) (y : LSym) : Int × Kp :=
 if k.own = true then (5, k) else if k.done = true then (7, k) else if k.ss.any (fun s => s.1 == y.1) = true then (6, k) else if 60 ≤ k.ss.length then (2, k) else (0, { k with ss := k.ss ++ [y] })

noncomputable def Kp.deliver (me : Int) (k : Kp) (c : List UInt8) : Int × Kp :=
 if k.h.T ≠ me then (5, k) else if k.done = true then (7, k) else if decCode k.h.B k.h.K k.ss ≠ 0 then (decCode k.h.B k.h.K k.ss, k) else if decRes k.h.B k.h.K k.ss ≠ c then (9, k) else (0, { k with dl := true }.over)

def Kp.give (me : Int) (k : Kp) (p n y : Int) : Int × Kp :=
 if p = me then (5, k) else if k.gv ≠ 0 ∨ y ≠ k.tr + 1 then (7, k) else if k.sh < 2 ∨ n ≠ k.sh / 2 then (3, k) else (0, { k with sh := k.sh - n, gv := n, tw := p, tr := y })

def Kp.given (k : Kp) (y : Int) : Int × Kp := if k.gv = 0 ∨ y ≠ k.tr then (7, k) else (0, { k with gv := 0, tw := 0 })

def Kp.take (k : Kp) (p n y : Int) : Int × Kp :=
 if y = 0 ∨ n = 0 ∨ 64 < k.sh + n then (3, k) else if (p, y) ∈ k.tk then (6, k) else if 40 ≤ k.tk.length then (2, k) else (0, { k with tk := k.tk ++ [(p, y)], sh := k.sh + n })

noncomputable def Kp.does (me : Int) (k : Kp) (r : Rc) : Int × Kp :=
 if r.k = 2 then k.keep (r.id, r.d) else if r.k = 3 then k.deliver me r.c else if k.done = true then (7, k)
 else if r.k = 4 then k.give me r.p r.n r.y else if r.k = 5 then k.given r.y else if r.k = 6 then k.take r.p r.n r.y else (0, { k with pg := true }.over)

def Pl.send (p : Pl) (r : Rc) : Int × Pl :=
 if r.h.F ≠ p.me then (5, p) else if r.h.Q ≠ p.sq ∨ r.h.L ≤ p.tm then (7, p) else if ¬ (1 ≤ r.n ∧ r.n ≤ 64) then (3, p) else if 12 ≤ p.kp.length then (2, p)
 else (0, { p with kp := insK p.kp (placeOf p.kp r.h) { kp0 r.h with own := true, c := r.c, sh := r.n }, sq := p.sq + 1 })

def Pl.tick (p : Pl) (n : Int) : Int × Pl := if n ≤ p.tm then (7, p) else (0, { p with tm := n, kp := p.kp.filter fun k => !decide (k.h.L ≤ n) })

def Pl.bundle (p : Pl) (r : Rc) : Int × List Kp × Nat :=
 match findL p.kp r.h.F r.h.Q with
 | none => if r.k = 3 ∨ r.k = 4 ∨ r.k = 5 then (5, [], 0) else if r.h.L ≤ p.tm then (7, [], 0) else if r.h.F = p.me then (5, [], 0) else if 12 ≤ p.kp.length then (2, [], 0) else (0, insK p.kp (placeOf p.kp r.h) (kp0 r.h), placeOf p.kp r.h)
 | some i => if r.h.L ≤ p.tm then (7, [], 0) else if (p.kp.map Kp.h)[i]? ≠ some r.h then (4, [], 0) else (0, p.kp, i)

noncomputable def Pl.does (p : Pl) (r : Rc) : Int × Pl :=
 if r.k = 1 then p.send r else if r.k = 8 then p.tick r.n else if (p.bundle r).1 ≠ 0 then ((p.bundle r).1, p) else
  match (p.bundle r).2.1[(p.bundle r).2.2]? with
  | none => (0, p)
  | some k => ((k.does p.me r).1, { p with kp := (p.bundle r).2.1.set (p.bundle r).2.2 (k.does p.me r).2 })

noncomputable def Pl.nextCode (p : Pl) (r : Rc) : Int := if p.code ≠ 0 then p.code else if r.code ≠ 0 then r.code else (p.does r).1

noncomputable def Pl.next (p : Pl) (r : Rc) : Pl := if p.nextCode r = 0 then (p.does r).2 else pl0

theorem rc_facts {r : Rc} (h : r.code = 0) : (1 ≤ r.k ∧ r.k ≤ 8) ∧ ((0 ≤ r.p ∧ r.p ≤ 3) ∧ (0 ≤ r.y ∧ r.y ≤ 9999) ∧ (0 ≤ r.n ∧ r.n ≤ 1000000)) ∧ (r.k ≠ 8 → hdCode r.h = 0) ∧ (r.k = 2 → chkS r.h.B r.h.K r.id r.d.length = 0) ∧ (r.k = 1 ∨ r.k = 3 → (r.c.length : Int) = r.h.B) := by
 unfold Rc.code at h
 rw [← ownCode_rec] at h
 unfold ownCode at h
 split at h
 ·omega
 ·rename_i h1
  split at h
  ·omega
  ·split at h
   ·omega
   ·rename_i h3
    have h1' := Classical.not_not.1 h1
    have h3' := Classical.not_not.1 h3
    refine ⟨h1', h3', ?_⟩
    split at h
    ·rename_i h8
     exact ⟨fun e => absurd h8 e, fun e => by omega, fun e => by omega⟩
    ·rename_i h8
     split at h
     ·rename_i hh
      exact absurd h hh
     ·rename_i hh
      refine ⟨fun _ => Classical.not_not.1 hh, ?_, ?_⟩
      ·intro e
       rw [if_pos e] at h
       exact h
      ·intro e
       rw [if_neg (by omega)] at h
       split at h
       ·omega
       ·rename_i hc
        exact Classical.not_not.1 fun hn => hc ⟨e, hn⟩

theorem hd_fits {h : Hd} (e : hdCode h = 0) : h.fits ∧ h.F ≠ h.T ∧ chkP h.B h.K = 0 := by
 unfold hdCode at e
 split at e
 ·omega
 ·rename_i h1
  split at e
  ·omega
  ·rename_i h2
   exact ⟨Classical.not_not.1 h1, h2, e⟩

theorem symsFrom_append (B K : Int) : ∀ (l a m : List LSym), symsFrom B K a (l ++ m) = if symsFrom B K a l ≠ 0 then symsFrom B K a l else symsFrom B K (a ++ l) m
 | [], a, m => by simp [symsFrom]
 | y :: l, a, m => by
  rw [List.cons_append]
  by_cases h1 : chkS B K y.1 y.2.length ≠ 0
  ·simp only [symsFrom, if_pos h1]
  ·by_cases h2 : a.any (fun s => s.1 == y.1) = true
   ·simp only [symsFrom, if_neg h1, if_pos h2]
    rw [if_pos (by decide)]
   ·simp only [symsFrom, if_neg h1, if_neg h2]
    rw [symsFrom_append B K l (a ++ [y]) m, List.append_assoc]
    rfl

theorem tookFrom_append : ∀ (l a m : List (Int × Int)), tookFrom a (l ++ m) = if tookFrom a l ≠ 0 then tookFrom a l else tookFrom (a ++ l) m
 | [], a, m => by simp [tookFrom]
 | y :: l, a, m => by
  rw [List.cons_append]
  by_cases h1 : ¬ ((0 ≤ y.1 ∧ y.1 ≤ 3) ∧ (1 ≤ y.2 ∧ y.2 ≤ 9999))
  ·simp only [tookFrom, if_pos h1]
   rw [if_pos (by decide)]
  ·by_cases h2 : y ∈ a
   ·simp only [tookFrom, if_neg h1, if_pos h2]
    rw [if_pos (by decide)]
   ·simp only [tookFrom, if_neg h1, if_neg h2]
    rw [tookFrom_append l (a ++ [y]) m, List.append_assoc]
    rfl

theorem ahead_trans {a b c : Hd} (h1 : a.ahead b = true) (h2 : b.ahead c = true) : a.ahead c = true := by
 simp only [Hd.ahead, Bool.or_eq_true, Bool.and_eq_true, decide_eq_true_eq, beq_iff_eq] at *
 omega

def SortedK (l : List Kp) : Prop := l.Pairwise fun a b => a.h.ahead b.h = true

theorem kept_zero {me tm sq : Int} : ∀ (l : List Kp) (p : Option Hd), keptFrom me tm sq p l = 0 ↔ (∀ k ∈ l, k.code me tm sq = 0) ∧ (∀ a, p = some a → ∀ k ∈ l, a.ahead k.h = true) ∧ SortedK l
 | [], p => by simp [keptFrom, SortedK]
 | k :: l, p => by
  have ih := kept_zero (me := me) (tm := tm) (sq := sq) l (some k.h)
  rw [keptFrom]
  by_cases h1 : k.code me tm sq ≠ 0
  ·rw [if_pos h1]
   constructor
   ·intro h; exact absurd h h1
   ·intro h; exact absurd (h.1 k List.mem_cons_self) h1
  ·rw [if_neg h1]
   have h1' := Classical.not_not.1 h1
   by_cases h2 : ¬ behind p k.h = true
   ·rw [if_pos h2]
    constructor
    ·intro h; omega
    ·intro h
     cases p with
     | none => simp [behind] at h2
     | some a => exact absurd (h.2.1 a rfl k List.mem_cons_self) h2
   ·rw [if_neg h2, ih]
    have h2' : ∀ a, p = some a → a.ahead k.h = true := fun a e => by
     subst e
     exact Classical.not_not.1 h2
    constructor
    ·rintro ⟨g1, g2, g3⟩
     refine ⟨fun x hx => ?_, fun a e x hx => ?_, List.pairwise_cons.2 ⟨fun x hx => g2 _ rfl x hx, g3⟩⟩
     ·rcases List.mem_cons.1 hx with rfl | hx
      ·exact h1'
      ·exact g1 x hx
     ·rcases List.mem_cons.1 hx with rfl | hx
      ·exact h2' a e
      ·exact ahead_trans (h2' a e) (g2 _ rfl x hx)
    ·rintro ⟨g1, g2, g3⟩
     obtain ⟨g4, g5⟩ := List.pairwise_cons.1 g3
     exact ⟨fun x hx => g1 x (List.mem_cons_of_mem _ hx), fun a e x hx => by cases e; exact g4 x hx, g5⟩

structure PlOk (p : Pl) : Prop where
 me : 0 ≤ p.me ∧ p.me ≤ 3
 tm : 0 ≤ p.tm ∧ p.tm ≤ 1000000
 sq : 0 ≤ p.sq ∧ p.sq ≤ 50
 few : p.kp.length ≤ 12
 all : ∀ k ∈ p.kp, k.code p.me p.tm p.sq = 0
 sorted : SortedK p.kp

theorem code_zero {p : Pl} : p.code = 0 ↔ PlOk p := by
 unfold Pl.code
 constructor
 ·intro h
  split at h
  ·omega
  ·rename_i h1
   split at h
   ·omega
   ·rename_i h2
    have h1' := Classical.not_not.1 h1
    obtain ⟨g1, _, g3⟩ := (kept_zero _ _).1 h
    exact ⟨h1'.1, h1'.2.1, h1'.2.2, by omega, g1, g3⟩
 ·intro h
  rw [if_neg (fun hn => hn ⟨h.me, h.tm, h.sq⟩), if_neg (by have := h.few; omega)]
  exact (kept_zero _ _).2 ⟨h.all, fun a e => (by cases e), h.sorted⟩

structure KpOk (me tm sq : Int) (k : Kp) : Prop where
 hd : hdCode k.h = 0
 late : tm < k.h.L
 own : k.owned me = true
 few : k.ss.length ≤ 60 ∧ k.tk.length ≤ 40
 syms : symsFrom k.h.B k.h.K [] k.ss = 0
 shares : k.shares me = 0
 took : tookFrom [] k.tk = 0
 done : k.doneOk me = true
 seq : k.own = true → k.h.Q < sq

theorem kcode_zero {me tm sq : Int} {k : Kp} : k.code me tm sq = 0 ↔ KpOk me tm sq k := by
 unfold Kp.code
 constructor
 ·intro h
  split at h
  ·rename_i h1; exact absurd h h1
  ·rename_i h1
   split at h
   ·omega
   ·rename_i h2
    split at h
    ·omega
    ·rename_i h3
     split at h
     ·omega
     ·rename_i h4
      split at h
      ·rename_i h5; exact absurd h h5
      ·rename_i h5
       split at h
       ·rename_i h6; exact absurd h h6
       ·rename_i h6
        split at h
        ·rename_i h7; exact absurd h h7
        ·rename_i h7
         split at h
         ·omega
         ·rename_i h8
          exact ⟨Classical.not_not.1 h1, by omega, Classical.not_not.1 h3, by omega, Classical.not_not.1 h5, Classical.not_not.1 h6, Classical.not_not.1 h7, Classical.not_not.1 fun e => h8 (Or.inl e), fun e => by
           rcases Int.lt_or_le k.h.Q sq with g | g
           ·exact g
           ·exact absurd (Or.inr ⟨e, g⟩) h8⟩
 ·intro h
  obtain ⟨h1, h2, h3, h4, h5, h6, h7, h8, h9⟩ := h
  rw [if_neg (by omega), if_neg (by omega), if_neg (by simp [h3]), if_neg (by omega), if_neg (by omega), if_neg (by omega), if_neg (by omega), if_neg]
  rintro (e | ⟨e1, e2⟩)
  ·exact e h8
  ·have := h9 e1; omega

section
variable {me tm sq : Int} {k : Kp}

theorem not_done {k : Kp} (h : ¬ k.done = true) : k.dl = false ∧ k.pg = false := by
 simp only [Kp.done, Bool.or_eq_true, not_or] at h
 exact ⟨by simpa using h.1, by simpa using h.2⟩

theorem doneOk_not {k : Kp} (h : k.dl = false ∧ k.pg = false) : k.doneOk me = true := by
 simp [Kp.doneOk, Kp.done, h.1, h.2]

theorem shares_zero {k : Kp} : k.shares me = 0 ↔ ((0 ≤ k.sh ∧ k.sh ≤ 64) ∧ (0 ≤ k.gv ∧ k.gv ≤ 64) ∧ (0 ≤ k.tw ∧ k.tw ≤ 3) ∧ (0 ≤ k.tr ∧ k.tr ≤ 9999)) ∧ (k.gv = 0 → k.tw = 0) ∧ (k.gv ≠ 0 → k.tw ≠ me ∧ k.tr ≠ 0) := by
 unfold Kp.shares
 by_cases h1 : (0 ≤ k.sh ∧ k.sh ≤ 64) ∧ (0 ≤ k.gv ∧ k.gv ≤ 64) ∧ (0 ≤ k.tw ∧ k.tw ≤ 3) ∧ (0 ≤ k.tr ∧ k.tr ≤ 9999)
 ·rw [if_neg (fun h => h h1)]
  by_cases h2 : (k.gv = 0 ∧ k.tw ≠ 0) ∨ (k.gv ≠ 0 ∧ (k.tw = me ∨ k.tr = 0))
  ·rw [if_pos h2]
   constructor
   ·intro h; omega
   ·intro h; omega
  ·rw [if_neg h2]
   constructor
   ·intro h; exact ⟨h1, by omega, by omega⟩
   ·intro h; rfl
 ·rw [if_pos h1]
  constructor
  ·intro h; omega
  ·intro h; exact absurd h.1 h1

theorem over_ok (h : KpOk me tm sq k) (hd : k.done = false) (d g : Bool) (hg : d = true → k.h.T = me ∧ g = false) : KpOk me tm sq ({ k with dl := d, pg := g } : Kp).over := by
 obtain ⟨h1, h2, h3, h4, h5, h6, h7, h8, h9⟩ := h
 refine ⟨h1, h2, ?_, ⟨Nat.zero_le _, h4.2⟩, rfl, ?_, h7, ?_, h9⟩
 ·simp only [Kp.owned, Kp.over, Bool.and_eq_true] at h3 ⊢
  refine ⟨h3.1, ?_⟩
  have := h3.2
  cases e : k.own
  ·rw [e] at this; simpa using this
  ·rw [e] at this
   simp only [Bool.true_and, Bool.not_true, Bool.false_and, Bool.or_false, Bool.and_eq_true] at this ⊢
   exact ⟨this.1, by simp⟩
 ·have := shares_zero.1 h6
  exact shares_zero.2 ⟨⟨(show (0:Int) ≤ 0 ∧ (0:Int) ≤ 64 by decide), (show (0:Int) ≤ 0 ∧ (0:Int) ≤ 64 by decide), (show (0:Int) ≤ 0 ∧ (0:Int) ≤ 3 by decide), this.1.2.2.2⟩, fun _ => rfl, fun h => absurd rfl h⟩
 ·simp only [Kp.doneOk, Kp.over, Kp.done, List.length_nil]
  cases d
  ·simp
  ·obtain ⟨g1, g2⟩ := hg rfl
   simp [g1, g2]

theorem keep_ok (h : KpOk me tm sq k) {y : LSym} (hy : chkS k.h.B k.h.K y.1 y.2.length = 0) (h0 : (k.keep y).1 = 0) : KpOk me tm sq (k.keep y).2 ∧ (k.keep y).2.h = k.h ∧ (k.keep y).2.sh = k.sh ∧ (k.keep y).2.dl = k.dl := by
 unfold Kp.keep at h0 ⊢
 split at h0
 ·omega
 ·rename_i g1
  rw [if_neg g1]
  split at h0
  ·omega
  ·rename_i g2
   rw [if_neg g2]
   split at h0
   ·omega
   ·rename_i g3
    rw [if_neg g3]
    split at h0
    ·omega
    ·rename_i g4
     rw [if_neg g4]
     obtain ⟨h1, h2, h3, h4, h5, h6, h7, h8, h9⟩ := h
     refine ⟨⟨h1, h2, ?_, ⟨by simp; omega, h4.2⟩, ?_, h6, h7, doneOk_not (not_done g2), h9⟩, rfl, rfl, rfl⟩
     ·have e1 : k.own = false := by simpa using g1
      simp only [Kp.owned, e1, Bool.and_eq_true] at h3 ⊢
      simpa using h3
     ·rw [symsFrom_append, if_neg (by rw [h5]; simp), List.nil_append, symsFrom, if_neg (by rw [hy]; simp), if_neg g3, symsFrom]

theorem deliver_ok (h : KpOk me tm sq k) {c : List UInt8} (h0 : (k.deliver me c).1 = 0) : KpOk me tm sq (k.deliver me c).2 ∧ (k.deliver me c).2.h = k.h ∧ (k.deliver me c).2.sh = 0 ∧ (k.deliver me c).2.dl = true ∧ k.dl = false ∧ k.h.T = me := by
 unfold Kp.deliver at h0 ⊢
 split at h0
 ·omega
 ·rename_i g1
  rw [if_neg g1]
  split at h0
  ·omega
  ·rename_i g2
   rw [if_neg g2]
   split at h0
   ·rename_i g3; exact absurd h0 g3
   ·rename_i g3
    rw [if_neg g3]
    split at h0
    ·omega
    ·rename_i g4
     rw [if_neg g4]
     obtain ⟨e1, e2⟩ := not_done g2
     refine ⟨?_, rfl, rfl, rfl, e1, Classical.not_not.1 g1⟩
     have := over_ok h (by simpa using g2) true k.pg (fun _ => ⟨Classical.not_not.1 g1, e2⟩)
     exact this

theorem give_ok (h : KpOk me tm sq k) {p n y : Int} (hp : 0 ≤ p ∧ p ≤ 3) (hy : 0 ≤ y ∧ y ≤ 9999) (hd : k.done = false) (h0 : (k.give me p n y).1 = 0) : KpOk me tm sq (k.give me p n y).2 ∧ (k.give me p n y).2.h = k.h ∧ (k.give me p n y).2.sh = k.sh - n ∧ (k.give me p n y).2.gv = n ∧ (k.give me p n y).2.dl = k.dl := by
 unfold Kp.give at h0 ⊢
 split at h0
 ·omega
 ·rename_i g1
  rw [if_neg g1]
  split at h0
  ·omega
  ·rename_i g2
   rw [if_neg g2]
   split at h0
   ·omega
   ·rename_i g3
    rw [if_neg g3]
    obtain ⟨h1, h2, h3, h4, h5, h6, h7, h8, h9⟩ := h
    have hs := shares_zero.1 h6
    have e := not_done (by simpa using hd)
    refine ⟨⟨h1, h2, h3, h4, h5, shares_zero.2 ?_, h7, doneOk_not e, h9⟩, rfl, rfl, rfl, rfl⟩
    simp only
    omega

theorem given_ok (h : KpOk me tm sq k) {y : Int} (hd : k.done = false) (h0 : (k.given y).1 = 0) : KpOk me tm sq (k.given y).2 ∧ (k.given y).2.h = k.h ∧ (k.given y).2.sh = k.sh ∧ (k.given y).2.dl = k.dl := by
 unfold Kp.given at h0 ⊢
 split at h0
 ·omega
 ·rename_i g2
  rw [if_neg g2]
  obtain ⟨h1, h2, h3, h4, h5, h6, h7, h8, h9⟩ := h
  have hs := shares_zero.1 h6
  have e := not_done (by simpa using hd)
  refine ⟨⟨h1, h2, h3, h4, h5, shares_zero.2 ⟨⟨hs.1.1, (show (0:Int) ≤ 0 ∧ (0:Int) ≤ 64 by decide), (show (0:Int) ≤ 0 ∧ (0:Int) ≤ 3 by decide), hs.1.2.2.2⟩, fun _ => rfl, fun h => absurd rfl h⟩, h7, doneOk_not e, h9⟩, rfl, rfl, rfl⟩

theorem take_ok (h : KpOk me tm sq k) {p n y : Int} (hp : 0 ≤ p ∧ p ≤ 3) (hy : 0 ≤ y ∧ y ≤ 9999) (hn : 0 ≤ n) (hd : k.done = false) (h0 : (k.take p n y).1 = 0) : KpOk me tm sq (k.take p n y).2 ∧ (k.take p n y).2.h = k.h ∧ (k.take p n y).2.sh = k.sh + n ∧ (k.take p n y).2.dl = k.dl := by
 unfold Kp.take at h0 ⊢
 split at h0
 ·omega
 ·rename_i g1
  rw [if_neg g1]
  split at h0
  ·omega
  ·rename_i g2
   rw [if_neg g2]
   split at h0
   ·omega
   ·rename_i g3
    rw [if_neg g3]
    obtain ⟨h1, h2, h3, h4, h5, h6, h7, h8, h9⟩ := h
    have hs := shares_zero.1 h6
    have e := not_done (by simpa using hd)
    refine ⟨⟨h1, h2, h3, ⟨h4.1, by simp; omega⟩, h5, shares_zero.2 ?_, ?_, doneOk_not e, h9⟩, rfl, rfl, rfl⟩
    ·simp only
     omega
    ·rw [tookFrom_append, if_neg (by rw [h7]; simp), List.nil_append, tookFrom, if_neg (fun hh => hh ⟨hp, by simp only; omega⟩), if_neg g2, tookFrom]

end

structure DoesOk (me tm sq : Int) (k : Kp) (r : Rc) (q : Kp) : Prop where
 ok : KpOk me tm sq q
 hd : q.h = k.h
 sh : q.sh = if r.k = 6 then k.sh + r.n else if r.k = 4 then k.sh - r.n else if r.k = 3 ∨ r.k = 7 then 0 else k.sh
 gv : r.k = 4 → q.gv = r.n
 dl : q.dl = (k.dl || decide (r.k = 3))
 was : r.k = 3 → k.dl = false ∧ k.h.T = me

theorem kdoes_ok {me tm sq : Int} {k : Kp} {r : Rc} (h : KpOk me tm sq k) (hr : r.code = 0) (hh : k.h = r.h) (hk1 : r.k ≠ 1) (hk8 : r.k ≠ 8) (h0 : (k.does me r).1 = 0) : DoesOk me tm sq k r (k.does me r).2 := by
 obtain ⟨fk, ⟨fp, fy, fn⟩, fh, fs, fc⟩ := rc_facts hr
 unfold Kp.does at h0 ⊢
 by_cases k2 : r.k = 2
 ·rw [if_pos k2] at h0 ⊢
  obtain ⟨a1, a2, a3, a4⟩ := keep_ok h (by rw [hh]; exact fs k2) h0
  exact ⟨a1, a2, by rw [a3, if_neg (by omega), if_neg (by omega), if_neg (by omega)], fun e => by omega, by rw [a4]; simp [k2], fun e => by omega⟩
 ·rw [if_neg k2] at h0 ⊢
  by_cases k3 : r.k = 3
  ·rw [if_pos k3] at h0 ⊢
   obtain ⟨a1, a2, a3, a4, a5, a6⟩ := deliver_ok h h0
   exact ⟨a1, a2, by rw [a3, if_neg (by omega), if_neg (by omega), if_pos (by omega)], fun e => by omega, by rw [a4]; simp [k3], fun e => ⟨a5, a6⟩⟩
  ·rw [if_neg k3] at h0 ⊢
   by_cases hd : k.done = true
   ·rw [if_pos hd] at h0; simp at h0
   ·rw [if_neg hd] at h0 ⊢
    have hd' : k.done = false := by simpa using hd
    by_cases k4 : r.k = 4
    ·rw [if_pos k4] at h0 ⊢
     obtain ⟨a1, a2, a3, a4, a5⟩ := give_ok h fp fy hd' h0
     exact ⟨a1, a2, by rw [a3, if_neg (by omega), if_pos (by omega)], fun e => a4, by rw [a5]; simp [k3], fun e => by omega⟩
    ·rw [if_neg k4] at h0 ⊢
     by_cases k5 : r.k = 5
     ·rw [if_pos k5] at h0 ⊢
      obtain ⟨a1, a2, a3, a4⟩ := given_ok h hd' h0
      exact ⟨a1, a2, by rw [a3, if_neg (by omega), if_neg (by omega), if_neg (by omega)], fun e => by omega, by rw [a4]; simp [k3], fun e => by omega⟩
     ·rw [if_neg k5] at h0 ⊢
      by_cases k6 : r.k = 6
      ·rw [if_pos k6] at h0 ⊢
       obtain ⟨a1, a2, a3, a4⟩ := take_ok h fp fy fn.1 hd' h0
       exact ⟨a1, a2, by rw [a3, if_pos k6], fun e => by omega, by rw [a4]; simp [k3], fun e => by omega⟩
      ·rw [if_neg k6] at h0 ⊢
       have e := not_done hd
       have k7 : r.k = 7 := by omega
       refine ⟨?_, rfl, ?_, fun e => by omega, ?_, fun e => by omega⟩
       ·have := over_ok h hd' k.dl true (fun e' => by rw [e.1] at e'; cases e')
        exact this
       ·rw [if_neg (by omega), if_neg (by omega), if_pos (by omega)]; rfl
       ·simp [Kp.over, k3]

end Go.Proofs.YtakkajjoeimkdaaGreatDoor
