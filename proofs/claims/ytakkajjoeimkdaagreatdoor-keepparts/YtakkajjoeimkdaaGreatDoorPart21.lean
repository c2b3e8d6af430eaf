import Derived.Test.YtakkajjoeimkdaaGreatDoorPart20
import Derived.Test.YtakkajjoeimkdaaGreatDoorPart15
import Derived.Test.YtakkajjoeimkdaaGreatDoorPart18
import Derived.Test.YtakkajjoeimkdaaGreatDoorPart8
import Derived.Deep.DrawnRows
import Derived.Deep.RegionHeld3
import Derived.BigRegion
namespace Go.Proofs.YtakkajjoeimkdaaGreatDoor
open Go.RowKit
set_option linter.unusedVariables false
set_option linter.unusedSimpArgs false

theorem lies_offK {w w' : World} {a : Option Addr} {xs : List Value} {b : Nat} (h : Lies w a xs) (hf : xs ≠ [] → ∀ c o, a = some ⟨c, o, none⟩ → c ≠ b) (hk : ∀ k, k ≠ b → w'.heap[k]? = w.heap[k]?) : Lies w' a xs := by
 by_cases hx : xs = []
 ·subst hx
  exact Lies.nil _ _
 ·exact liesG h hk (hf hx)

theorem lies_block {w : World} {a : Option Addr} {xs : List Value} (h : Lies w a xs) (hx : xs ≠ []) : ∀ b o, a = some ⟨b, o, none⟩ → b < w.heap.size := by
 intro b o e
 have h1 := h.lt e 0 (List.length_pos_iff.2 hx)
 have := World.block_lt_of_cell? w _ h1
 simpa using this

theorem bs_ne {l : List UInt8} (h : bs l ≠ []) : l ≠ [] := fun e => h (by rw [e]; rfl)
theorem tk_ne {l : List (Int × Int)} (h : tkCells l ≠ []) : l ≠ [] := fun e => h (by rw [e]; rfl)
theorem sy_ne {l : List MSym} (h : symCells l ≠ []) : l ≠ [] := fun e => h (by rw [e]; rfl)
theorem bs_ne' {l : List UInt8} (h : l ≠ []) : bs l ≠ [] := fun e => h (List.eq_nil_of_length_eq_zero (by have := congrArg List.length e; rw [bs_length] at this; simpa using this))
theorem tk_ne' {l : List (Int × Int)} (h : l ≠ []) : tkCells l ≠ [] := fun e => h (List.eq_nil_of_length_eq_zero (by have := congrArg List.length e; rw [tkCells_length] at this; simp at this; omega))
theorem sy_ne' {l : List MSym} (h : l ≠ []) : symCells l ≠ [] := fun e => h (List.eq_nil_of_length_eq_zero (by have := congrArg List.length e; rw [symCells_length] at this; simp at this; omega))

structure FarM (b : Nat) (m : MKp) : Prop where
 c : m.k.c ≠ [] → ∀ a o, m.ca = some ⟨a, o, none⟩ → a ≠ b
 y : m.ys ≠ [] → ∀ a o, m.ya = some ⟨a, o, none⟩ → a ≠ b
 ys : ∀ y ∈ m.ys, OffY b y
 t : m.k.tk ≠ [] → ∀ a o, m.ta = some ⟨a, o, none⟩ → a ≠ b

theorem kpIn_off {w w' : World} {m : MKp} {b : Nat} (h : KpIn w m) (hf : FarM b m) (hk : ∀ k, k ≠ b → w'.heap[k]? = w.heap[k]?) : KpIn w' m :=
 ⟨lies_offK h.c (fun e => hf.c (bs_ne e)) hk, lies_offK h.y (fun e => hf.y (sy_ne e)) hk, fun y hy => symIn_far (h.ys y hy) (hf.ys y hy) hk, h.says, lies_offK h.t (fun e => hf.t (tk_ne e)) hk⟩

theorem farM_old {w : World} {m : MKp} {b : Nat} (h : KpIn w m) (hb : w.heap.size ≤ b) : FarM b m :=
 ⟨fun e a o ha => by have := lies_block h.c (bs_ne' e) a o ha; omega, fun e a o ha => by have := lies_block h.y (sy_ne' e) a o ha; omega, fun y hy hd a o ha => by have := symIn_lt (h.ys y hy) hd a o ha; omega, fun e a o ha => by have := lies_block h.t (tk_ne' e) a o ha; omega⟩

def SepN (m' : MKp) : Prop := (∀ b o b' o', m'.ya = some ⟨b, o, none⟩ → m'.ta = some ⟨b', o', none⟩ → b ≠ b') ∧ (m'.k.c ≠ [] → ∀ b o b' o', m'.ya = some ⟨b, o, none⟩ → m'.ca = some ⟨b', o', none⟩ → b ≠ b') ∧ (m'.k.c ≠ [] → ∀ b o b' o', m'.ta = some ⟨b, o, none⟩ → m'.ca = some ⟨b', o', none⟩ → b ≠ b') ∧
 (∀ y ∈ m'.ys, y.d ≠ [] → ∀ b o b' o', y.a = some ⟨b, o, none⟩ → m'.ya = some ⟨b', o', none⟩ → b ≠ b') ∧ (∀ y ∈ m'.ys, y.d ≠ [] → ∀ b o b' o', y.a = some ⟨b, o, none⟩ → m'.ta = some ⟨b', o', none⟩ → b ≠ b')

theorem SepM.weak {m : MKp} (h : SepM m) : SepN m := ⟨h.1, fun _ => h.2.1, fun _ => h.2.2.1, fun y hy _ => h.2.2.2.1 y hy, fun y hy _ => h.2.2.2.2 y hy⟩

structure NewM (w : World) (B : Nat) (m : MKp) : Prop where
 inn : KpIn w m
 fits : m.fits
 ca : ∀ b o, m.ca = some ⟨b, o, none⟩ → B ≤ b
 ya : ∀ b o, m.ya = some ⟨b, o, none⟩ → B ≤ b
 ta : ∀ b o, m.ta = some ⟨b, o, none⟩ → B ≤ b
 ys : ∀ y ∈ m.ys, y.d.length ≤ y.c ∧ ∀ b o, y.a = some ⟨b, o, none⟩ → B ≤ b
 own : OwnM w B m
 sep : SepN m

theorem farM_new {w : World} {B b : Nat} {m : MKp} (h : NewM w B m) (hb : b < B) : FarM b m :=
 ⟨fun _ a o e => by have := h.ca a o e; omega, fun _ a o e => by have := h.ya a o e; omega, fun y hy _ a o e => by have := (h.ys y hy).2 a o e; omega, fun _ a o e => by have := h.ta a o e; omega⟩

theorem NewM.mono {w : World} {B B' : Nat} {m : MKp} (h : NewM w B m) (hB : B' ≤ B) : NewM w B' m :=
 ⟨h.inn, h.fits, fun b o e => Nat.le_trans hB (h.ca b o e), fun b o e => Nat.le_trans hB (h.ya b o e), fun b o e => Nat.le_trans hB (h.ta b o e), fun y hy => ⟨(h.ys y hy).1, fun b o e => Nat.le_trans hB ((h.ys y hy).2 b o e)⟩, ⟨own_low h.own.1 hB, own_low h.own.2 hB⟩, h.sep⟩

theorem CopyR.new {w w' : World} {m m' : MKp} (h : CopyR w w' m m') : NewM w' w.heap.size m' :=
 ⟨h.2.1, h.2.2.1, h.2.2.2.1, h.2.2.2.2.1, h.2.2.2.2.2.1, h.2.2.2.2.2.2.1, h.2.2.2.2.2.2.2.2.1, h.2.2.2.2.2.2.2.2.2.weak⟩

def growB (m : MKp) (b : Nat) : Prop := (∃ o, m.ya = some ⟨b, o, none⟩) ∨ (∃ o, m.ta = some ⟨b, o, none⟩)

theorem NewM.below {w w' : World} {B : Nat} {m : MKp} (h : NewM w B m) (hb : Below w.heap.size w w') : NewM w' B m :=
 ⟨h.inn.below hb, h.fits, h.ca, h.ya, h.ta, h.ys, ⟨ownB h.own.1 hb, ownB h.own.2 hb⟩, h.sep⟩

theorem own_plain {w : World} {B es n c g : Nat} {e : TypeId} {a : Option Addr} {xs : List Value} (h : w.ownsRow B e es (.slice a n c) n xs) (hg : (Value.slice a n c).ownBlock = some g) : a = some ⟨g, 0, none⟩ := by
 rcases h.2 with ⟨e0, _⟩ | ⟨g', cap, cur, e0, _⟩
 ·rw [e0] at hg; cases hg
 ·simp only [Value.slice.injEq] at e0
  obtain ⟨rfl, _, _⟩ := e0
  obtain rfl : g' = g := by simpa [Value.ownBlock] using hg
  rfl

theorem NewM.off {w w' : World} {B b : Nat} {m : MKp} (h : NewM w B m) (hf : FarM b m) (hg : ¬ growB m b) (hk : ∀ k, k ≠ b → w'.heap[k]? = w.heap[k]?) : NewM w' B m :=
 ⟨kpIn_off h.inn hf hk, h.fits, h.ca, h.ya, h.ta, h.ys, ⟨own_at h.own.1 (fun g e => hk g (fun e' => hg (.inl ⟨0, by rw [← e']; exact own_plain h.own.1 e⟩))), own_at h.own.2 (fun g e => hk g (fun e' => hg (.inr ⟨0, by rw [← e']; exact own_plain h.own.2 e⟩)))⟩, h.sep⟩

theorem NewM.keep {w w' : World} {B : Nat} {x : MKp} (h : NewM w B x) (P : Nat → Prop) (hF : ∀ b, P b → FarM b x ∧ ¬ growB x b) (hr : ∀ k, k < w.heap.size → ¬ P k → w'.heap[k]? = w.heap[k]?) : NewM w' B x := by
 have hk : ∀ a, ∀ xs : List Value, Lies w a xs → (∀ b, P b → xs ≠ [] → ∀ c o', a = some ⟨c, o', none⟩ → c ≠ b) → Lies w' a xs := fun a xs hl hf => by
  intro k u hu
  obtain ⟨b, off, e, hcell⟩ := hl k u hu
  refine ⟨b, off, e, ?_⟩
  have hb := World.block_lt_of_cell? w _ hcell
  have hne : xs ≠ [] := fun e0 => by rw [e0] at hu; cases hu
  have := hr b (by simpa using hb) (fun e0 => hf b e0 hne b off e rfl)
  rw [← hcell]
  simp only [World.cell?, this]
 have hO : ∀ b, growB x b → b < w.heap.size → w'.heap[b]? = w.heap[b]? := fun b hb hlt => hr b hlt (fun e => (hF b e).2 hb)
 refine ⟨⟨hk _ _ h.inn.c (fun b hb e => (hF b hb).1.c (bs_ne e)), hk _ _ h.inn.y (fun b hb e => (hF b hb).1.y (sy_ne e)), fun y hy => ⟨hk _ _ (h.inn.ys y hy).1 (fun b hb e c o' ec => (hF b hb).1.ys y hy (fun e0 => e (by rw [e0]; rfl)) c o' ec), (h.inn.ys y hy).2⟩, h.inn.says, hk _ _ h.inn.t (fun b hb e => (hF b hb).1.t (tk_ne e))⟩, h.fits, h.ca, h.ya, h.ta, h.ys, ⟨?_, ?_⟩, h.sep⟩
 ·exact own_at h.own.1 (fun g' e => hO g' (.inl ⟨0, own_plain h.own.1 e⟩) (h.own.1.lt g' e).2)
 ·exact own_at h.own.2 (fun g' e => hO g' (.inr ⟨0, own_plain h.own.2 e⟩) (h.own.2.lt g' e).2)

theorem NewM.grow_lt {w : World} {B b : Nat} {m : MKp} (h : NewM w B m) (hg : growB m b) : B ≤ b ∧ b < w.heap.size := by
 rcases hg with ⟨o, e⟩ | ⟨o, e⟩
 ·exact h.own.1.lt b (by rw [e]; rfl)
 ·exact h.own.2.lt b (by rw [e]; rfl)

theorem own_frz {w : World} {B es n cp g : Nat} {e : TypeId} {xs : List Value} (h : w.ownsRow B e es (.slice (some ⟨g, 0, none⟩) n cp) n xs) : ∀ j, w.frozen? ⟨g, j, none⟩ = false := by
 intro j
 rcases h.2 with ⟨h0, _⟩ | ⟨g', cap', cur, h0, _, hc, _⟩
 ·cases h0
 ·simp only [Value.slice.injEq, Option.some.injEq, Addr.mk.injEq] at h0
  obtain ⟨⟨rfl, _⟩, _, _⟩ := h0
  simp [World.frozen?, hc]

theorem own_some {w : World} {B es n cp g : Nat} {e : TypeId} {xs : List Value} (h : w.ownsRow B e es (.slice (some ⟨g, 0, none⟩) n cp) n xs) : Lies w (some ⟨g, 0, none⟩) xs ∧ n ≤ cp := by
 obtain ⟨_, _, e1, e2, e3⟩ := own_gen h
 simp only [Value.slice.injEq] at e1
 obtain ⟨rfl, _, rfl⟩ := e1
 exact ⟨e2, e3⟩

theorem kpCells_set (L : List MKp) (q : Nat) (x : MKp) (h : q < L.length) : kpCells (L.set q x) = (kpCells L).take (16 * q) ++ x.cells ++ (kpCells L).drop (16 * q + x.cells.length) :=
 flat_set MKp.cells 16 (fun _ => rfl) L q x h

theorem kpCells_one (l : List MKp) : ∀ v ∈ kpCells l, v.oneCell' = true := by
 intro v hv
 obtain ⟨y, _, hy⟩ := List.mem_flatMap.1 hv
 exact List.all_eq_true.1 (show y.cells.all (fun v => v.oneCell') = true from rfl) v hy

def Kp.small (k : Kp) : Prop := k.c.length ≤ 65536 ∧ k.ss.length ≤ 65536 ∧ k.tk.length ≤ 65536 ∧ ∀ s ∈ k.ss, s.2.length ≤ 65536

def CopyK (B : Nat) (V wr : World) (g n cap : Nat) (l : List Kp) (q : Nat) : Prop :=
 ∃ L : List MKp, L.map MKp.k = l ∧ wr.ownsRow B 88 16 (.slice (some ⟨g, 0, none⟩) n cap) n (kpCells L) ∧ (∀ m ∈ L, KpIn wr m ∧ FarM g m) ∧
  (∀ i m, L[i]? = some m → i < q → NewM wr B m ∧ ¬ growB m g) ∧ (∀ i j m m', i < q → j < q → i ≠ j → L[i]? = some m → L[j]? = some m' → ∀ b, growB m b → FarM b m' ∧ ¬ growB m' b) ∧ Below B V wr

structure PlNew (B : Nat) (w' : World) (l : List Kp) (L : List MKp) (p : Option Addr) (cp : Nat) : Prop where
 says : L.map MKp.k = l
 own : w'.ownsRow B 88 16 (.slice p l.length cp) l.length (kpCells L)
 new : ∀ m ∈ L, NewM w' B m ∧ ∀ g o, p = some ⟨g, o, none⟩ → FarM g m ∧ ¬ growB m g
 far : ∀ (i j : Nat) (m m' : MKp), i ≠ j → L[i]? = some m → L[j]? = some m' → ∀ b, growB m b → FarM b m' ∧ ¬ growB m' b

theorem PlNew.below {B : Nat} {w w' : World} {l : List Kp} {L : List MKp} {p : Option Addr} {cp : Nat} (h : PlNew B w l L p cp) (hb : Below w.heap.size w w') : PlNew B w' l L p cp :=
 ⟨h.says, ownB h.own hb, fun m hm => ⟨(h.new m hm).1.below hb, (h.new m hm).2⟩, h.far⟩

theorem CopyK.step {V wr u W2 : World} {B g n cap q : Nat} {l : List Kp} {L : List MKp} {y x : MKp} (hL : L.map MKp.k = l) (hown : wr.ownsRow B 88 16 (.slice (some ⟨g, 0, none⟩) n cap) n (kpCells L)) (hall : ∀ m ∈ L, KpIn wr m ∧ FarM g m)
  (hnew : ∀ i m, L[i]? = some m → i < q → NewM wr B m ∧ ¬ growB m g) (hfar : ∀ i j m m', i < q → j < q → i ≠ j → L[i]? = some m → L[j]? = some m' → ∀ b, growB m b → FarM b m' ∧ ¬ growB m' b) (hbr : Below B V wr) (hq : L[q]? = some y) (hb : Below wr.heap.size wr W2) (hu : wr.heap.size ≤ u.heap.size) (hx : x.k = y.k) (hN : NewM W2 u.heap.size x) (hqn : q < n) :
  CopyK B V (setRun W2 g (16 * q) x.cells) g n cap l (q + 1) := by
 have own2 := ownB hown hb
 have hln : L.length = n := by have := hown.1; rw [kpCells_length] at this; omega
 have hgl : g < wr.heap.size := (hown.lt g rfl).2
 have hBg : B ≤ g := (hown.lt g rfl).1
 have farx : FarM g x := farM_new hN (by omega)
 have growx : ¬ growB x g := fun e => by have := (hN.grow_lt e).1; omega
 have hfr : ∀ k, k ≠ g → (setRun W2 g (16 * q) x.cells).heap[k]? = W2.heap[k]? := fun k hk => setRun_far hk _ _ _
 have hB2 : B ≤ wr.heap.size := by omega
 refine ⟨L.set q x, ?_, ?_, ?_, ?_, ?_, ?_⟩
 ·rw [← hL, List.map_set, hx]
  obtain ⟨hlt, rfl⟩ := List.getElem?_eq_some_iff.1 hq
  have : L[q].k = (L.map MKp.k)[q]'(by simpa using hlt) := by simp
  rw [this, List.set_getElem_self]
 ·rw [kpCells_set L q x (by omega)]
  exact own_setRun own2 x.cells (16 * q) (by show 16 * q + 16 ≤ n * 16; omega)
 ·intro z hz
  rcases List.mem_or_eq_of_mem_set hz with hz | rfl
  ·have h1 := hall z hz
   exact ⟨kpIn_off (h1.1.below hb) h1.2 hfr, h1.2⟩
  ·exact ⟨kpIn_off hN.inn farx hfr, farx⟩
 ·intro i z hz hi
  rw [List.getElem?_set] at hz
  split at hz
  ·split at hz
   ·obtain rfl := Option.some.inj hz
    exact ⟨(hN.mono (by omega)).off farx growx hfr, growx⟩
   ·cases hz
  ·have h1 := hnew i z hz (by omega)
   exact ⟨(h1.1.below hb).off (hall z (List.mem_of_getElem? hz)).2 h1.2 hfr, h1.2⟩
 ·intro i j m m' hi hj hij h1 h2 b hg
  rw [List.getElem?_set] at h1 h2
  split at h1
  ·split at h1
   ·obtain rfl := Option.some.inj h1
    rw [if_neg (by omega)] at h2
    have h3 := hnew j m' h2 (by omega)
    have h4 := (hN.grow_lt hg).1
    refine ⟨farM_old (h3.1.inn) (by omega), fun e => ?_⟩
    have := (h3.1.grow_lt e).2
    omega
   ·cases h1
  ·have h3 := hnew i m h1 (by omega)
   have h4 := (h3.1.grow_lt hg).2
   split at h2
   ·split at h2
    ·obtain rfl := Option.some.inj h2
     refine ⟨farM_new hN (by omega), fun e => ?_⟩
     have := (hN.grow_lt e).1
     omega
    ·cases h2
   ·exact hfar i j m m' (by omega) (by omega) hij h1 h2 b hg
 ·exact setRun_below hBg _ _ _ (hbr.trans (hb.mono (by omega)))

end Go.Proofs.YtakkajjoeimkdaaGreatDoor

namespace Go.Proofs.YtakkajjoeimkdaaGreatDoor
open Go.RowKit
set_option linter.unusedVariables false
set_option linter.unusedSimpArgs false
attribute [local go_sem ↓] Go.wp_at_zero Go.wp_at_succ

def At16 (W : World) (g o : Nat) (pre post xs : List Value) : Prop := W.heap[g]? = some (.cells (pre ++ xs ++ post).toArray 88 (0, 0)) ∧ pre.length = o

theorem At16.cell {W : World} {g o : Nat} {pre post xs : List Value} (h : At16 W g o pre post xs) (j : Nat) (v : Value) (hv : xs[j]? = some v) : W.cell? ⟨g, o + j, none⟩ = some v := by
 refine cellB h.1 (o + j) v ?_
 have hj := (List.getElem?_eq_some_iff.1 hv).1
 rw [List.getElem?_toArray, List.append_assoc, List.getElem?_append_right (by have := h.2; omega), h.2, Nat.add_sub_cancel_left, List.getElem?_append_left hj]
 exact hv

theorem At16.frz {W : World} {g o : Nat} {pre post xs : List Value} (h : At16 W g o pre post xs) (j : Nat) : W.frozen? ⟨g, j, none⟩ = false := by simp [World.frozen?, h.1]

theorem At16.set {W : World} {g o : Nat} {pre post xs : List Value} (h : At16 W g o pre post xs) (j : Nat) (hj : j < xs.length) (v : Value) : At16 (W.setCell ⟨g, o + j, none⟩ v) g o pre post (xs.set j v) := by
 refine ⟨?_, h.2⟩
 have h1 := setCell_blk (v := v) h.1 (o + j)
 rw [h1]
 congr 2
 rw [List.setIfInBounds_toArray, List.append_assoc, List.set_append_right _ _ (by have := h.2; omega), h.2, Nat.add_sub_cancel_left, List.set_append_left _ _ hj, List.append_assoc]

theorem At16.conv {W : World} {g o : Nat} {pre post xs ys : List Value} (h : At16 W g o pre post xs) (e : xs = ys) : At16 W g o pre post ys := e ▸ h

theorem At16.blk {W W' : World} {g o : Nat} {pre post xs : List Value} (h : At16 W g o pre post xs) (hk : W'.heap[g]? = W.heap[g]?) : At16 W' g o pre post xs := ⟨hk.trans h.1, h.2⟩

theorem At16.lt {W : World} {g o : Nat} {pre post xs : List Value} (h : At16 W g o pre post xs) : g < W.heap.size := (Array.getElem?_eq_some_iff.1 h.1).1

theorem At16.below {W W' : World} {g o : Nat} {pre post xs : List Value} (h : At16 W g o pre post xs) (hb : Below W.heap.size W W') : At16 W' g o pre post xs := h.blk (hb.block g h.lt)

theorem grown_set {w u : World} {g : Nat} (h : w.grownBy u (some g)) (j : Nat) (v : Value) : w.grownBy (u.setCell ⟨g, j, none⟩ v) (some g) := by
 have hb := (Below.refl 0 u).setCell (p := ⟨g, j, none⟩) (Nat.zero_le _) v
 exact ⟨hb.os.trans h.os, hb.tape.trans h.tape, hb.output.trans h.output, Nat.le_trans h.size hb.size, fun k hk hn => (setCell_far _ _ (fun e => hn (by rw [e]))).trans (h.block k hk hn)⟩
theorem grown_of {w u : World} (g : Option Nat) (h : Below w.heap.size w u) : w.grownBy u g := ⟨h.os, h.tape, h.output, h.size, fun k hk _ => h.block k hk⟩
theorem grown_below {B g : Nat} {w u : World} (h : w.grownBy u (some g)) (h1 : B ≤ g) (h2 : B ≤ w.heap.size) : Below B w u := ⟨h.os, h.tape, h.output, h.size, fun k hk => h.block k (by omega) (fun e => by have := Option.some.inj e; omega)⟩

def MKp.letgo (m : MKp) : MKp := { m with ya := none, ys := [], yc := 0, k := m.k.over }

set_option maxHeartbeats 1000000 in
theorem letGo_any (m : MKp) (g o : Nat) (pre post : List Value) (w : World) (h : At16 w g o pre post m.cells) :
  Calls Tryz.prog 77 #[.pointer (some ⟨g, o, none⟩)] w fun e w' => e = .returned (.tuple #[]) ∧ Shut (At16 w' g o pre post m.letgo.cells ∧ w.grownBy w' (some g)) := by
 have c8 := h.cell 8 _ rfl
 have c9 := h.cell 9 _ rfl
 have c10 := h.cell 10 _ rfl
 have c11 := h.cell 11 _ rfl
 have f8 := h.frz (o + 8)
 have f9 := h.frz (o + 9)
 have f10 := h.frz (o + 10)
 have f11 := h.frz (o + 11)
 have H := Shut.mk h
 clear h
 go_enter Tryz.func77, Tryz.ntmps77
 go_wp2
 go_show
 refine bodyPost_end (v := .tuple #[]) (by simp [results, Tryz.results77, go_sem]) rfl ?_
 refine ⟨rfl, ⟨At16.conv (At16.set (At16.set (At16.set (At16.set H.out _ ?_ _) _ ?_ _) _ ?_ _) _ ?_ _) ?_, ?_⟩⟩
 ·show 8 < 16; omega
 ·show 9 < 16; omega
 ·show 10 < 16; omega
 ·show 11 < 16; omega
 ·rfl
 ·exact grown_set (grown_set (grown_set (grown_set (grown_refl _ _) _ _) _ _) _ _) _ _

theorem eqDec (x y : Int) : (x = y ∧ (x == y) = true ∧ (x != y) = false ∧ (decide (x = y)) = true) ∨ (x ≠ y ∧ (x == y) = false ∧ (x != y) = true ∧ (decide (x = y)) = false) := by
 by_cases h : x = y
 ·exact .inl ⟨h, by simpa using h, by simpa using h, by simpa using h⟩
 ·exact .inr ⟨h, by simpa using h, by simpa using h, by simpa using h⟩

def DoesR (w : World) (g o : Nat) (pre post : List Value) (z : Int) (m' : MKp) (w' : World) : Prop := (z = 0 → At16 w' g o pre post m'.cells) ∧ w.grownBy w' (some g)

set_option maxHeartbeats 2000000 in
theorem given_any (m : MKp) (y : Int) (g o : Nat) (pre post : List Value) (w : World) (h : At16 w g o pre post m.cells) :
  Calls Tryz.prog 75 #[.pointer (some ⟨g, o, none⟩), .int .i64 y] w fun e w' => e = .returned (.int .i64 (m.k.given y).1) ∧ Shut (DoesR w g o pre post (m.k.given y).1 { m with k := (m.k.given y).2 } w') := by
 have c10 := h.cell 10 _ rfl
 have c11 := h.cell 11 _ rfl
 have c12 := h.cell 12 _ rfl
 have f10 := h.frz (o + 10)
 have f11 := h.frz (o + 11)
 have H := Shut.mk h
 clear h
 rcases eqDec m.k.gv 0 with ⟨z1, z2, z3, z4⟩ | ⟨z1, z2, z3, z4⟩
 ·have hr : m.k.given y = (7, m.k) := by simp [Kp.given, z1]
  rw [hr]
  have R : Shut (DoesR w g o pre post 7 m w) := ⟨fun e => absurd e (by decide), grown_refl _ _⟩
  have HZ := Shut.mk z1
  clear z1 hr
  go_enter Tryz.func75, Tryz.ntmps75
  go_wp2
  go_ret
  exact ⟨rfl, R⟩
 ·rcases eqDec y m.k.tr with ⟨y1, y2, y3, y4⟩ | ⟨y1, y2, y3, y4⟩
  ·have hr : m.k.given y = (0, { m.k with gv := 0, tw := 0 }) := by simp [Kp.given, z1, y1]
   rw [hr]
   have R : Shut (DoesR w g o pre post 0 { m with k := { m.k with gv := 0, tw := 0 } } ((w.setCell ⟨g, o + 10, none⟩ (.int .i64 0)).setCell ⟨g, o + 11, none⟩ (.int .i64 0))) :=
    ⟨fun _ => At16.conv (At16.set (At16.set H.out 10 (by show 10 < 16; omega) _) 11 (by show 11 < 16; omega) _) rfl, grown_set (grown_set (grown_refl _ _) _ _) _ _⟩
   clear z1 hr
   subst y1
   go_enter Tryz.func75, Tryz.ntmps75
   go_wp2
   go_ret
   exact ⟨rfl, R⟩
  ·have hr : m.k.given y = (7, m.k) := by simp [Kp.given, y1]
   rw [hr]
   have R : Shut (DoesR w g o pre post 7 m w) := ⟨fun e => absurd e (by decide), grown_refl _ _⟩
   clear z1 hr y1
   go_enter Tryz.func75, Tryz.ntmps75
   go_wp2
   go_ret
   exact ⟨rfl, R⟩

theorem rcBox {W : World} {g : Nat} {a0 a1 a2 a3 a4 a5 a6 a7 a8 a9 a10 a11 a12 : Value} (h : W.heap[g]? = some (.cells #[a0, a1, a2, a3, a4, a5, a6, a7, a8, a9, a10, a11, a12] 40 (0, 0))) :
  W.cell? ⟨g, 0, none⟩ = some a0 ∧ W.cell? ⟨g, 1, none⟩ = some a1 ∧ W.cell? ⟨g, 2, none⟩ = some a2 ∧ W.cell? ⟨g, 3, none⟩ = some a3 ∧ W.cell? ⟨g, 4, none⟩ = some a4 ∧ W.cell? ⟨g, 5, none⟩ = some a5 ∧ W.cell? ⟨g, 6, none⟩ = some a6 ∧ W.cell? ⟨g, 7, none⟩ = some a7 ∧ W.cell? ⟨g, 8, none⟩ = some a8 ∧ W.cell? ⟨g, 9, none⟩ = some a9 ∧ W.cell? ⟨g, 10, none⟩ = some a10 ∧ W.cell? ⟨g, 11, none⟩ = some a11 ∧ W.cell? ⟨g, 12, none⟩ = some a12 :=
 ⟨cellB h 0 _ rfl, cellB h 1 _ rfl, cellB h 2 _ rfl, cellB h 3 _ rfl, cellB h 4 _ rfl, cellB h 5 _ rfl, cellB h 6 _ rfl, cellB h 7 _ rfl, cellB h 8 _ rfl, cellB h 9 _ rfl, cellB h 10 _ rfl, cellB h 11 _ rfl, cellB h 12 _ rfl⟩

theorem At16.drew {W : World} {g o : Nat} {pre post xs : List Value} (h : At16 W g o pre post xs) : At16 W.drew g o pre post xs := h.blk rfl
theorem grown_drew {w u : World} {g : Option Nat} (h : w.grownBy u g) : w.grownBy u.drew g := ⟨h.os, h.tape, h.output, h.size, h.block⟩
theorem grown_of_drew {w u : World} {g : Option Nat} (h : w.grownBy u g) : w.grownBy u.drew.drew.drew g := ⟨h.os, h.tape, h.output, h.size, h.block⟩

theorem cellOff {W : World} {b j g o : Nat} {v u : Value} (h : W.cell? ⟨b, j, none⟩ = some v) (hne : b ≠ g) : (W.setCell ⟨g, o, none⟩ u).cell? ⟨b, j, none⟩ = some v := by
 rw [World.cell?_setCell_other _ _ _ _ (by intro e; injection e; omega)]
 exact h

set_option maxHeartbeats 4000000 in
theorem give_any (m : MKp) (me : Int) (r : Rc) (da : Option Addr) (dc : Nat) (ca : Option Addr) (cc : Nat) (g o : Nat) (pre post : List Value) (w : World) (h : At16 w g o pre post m.cells) (hi : I64 m.k.sh ∧ I64 m.k.tr ∧ I64 r.n ∧ m.k.tr ≤ 9999 ∧ 0 ≤ m.k.sh ∧ m.k.sh ≤ 64) :
  Calls Tryz.prog 74 #[.pointer (some ⟨g, o, none⟩), .int .i64 me, rcV r da dc ca cc] w fun e w' => e = .returned (.int .i64 (m.k.give me r.p r.n r.y).1) ∧ Shut (DoesR w g o pre post (m.k.give me r.p r.n r.y).1 { m with k := (m.k.give me r.p r.n r.y).2 } w') := by
 obtain ⟨W, hW⟩ : ∃ W, w.alloc (.cells #[.int .i64 r.k, .int .i64 r.p, .int .i64 r.n, .int .i64 r.y, .int .i64 r.h.F, .int .i64 r.h.Q, .int .i64 r.h.T, .int .i64 r.h.L, .int .i64 r.h.B, .int .i64 r.h.K, .int .i64 r.id, .slice da r.d.length dc, .slice ca r.c.length cc] 40) = W := ⟨_, rfl⟩
 have hb : Below w.heap.size w W := by rw [← hW]; exact (Below.refl _ _).alloc (Nat.le_refl _) _
 have hk : W.heap[w.heap.size]? = some (.cells #[.int .i64 r.k, .int .i64 r.p, .int .i64 r.n, .int .i64 r.y, .int .i64 r.h.F, .int .i64 r.h.Q, .int .i64 r.h.T, .int .i64 r.h.L, .int .i64 r.h.B, .int .i64 r.h.K, .int .i64 r.id, .slice da r.d.length dc, .slice ca r.c.length cc] 40 (0, 0)) := by rw [← hW, heap_alloc_eq, if_pos rfl]
 obtain ⟨b0, b1, b2, b3, b4, b5, b6, b7, b8, b9, b10, b11, b12⟩ := rcBox hk
 have hA := h.below hb
 have hne : w.heap.size ≠ g := by have := h.lt; omega
 have c9 := hA.cell 9 _ rfl
 have c10 := hA.cell 10 _ rfl
 have c11 := hA.cell 11 _ rfl
 have c12 := hA.cell 12 _ rfl
 have f9 := hA.frz (o + 9)
 have f10 := hA.frz (o + 10)
 have f11 := hA.frz (o + 11)
 have f12 := hA.frz (o + 12)
 have H := Shut.mk (And.intro hA (grown_of (some g) hb))
 have HW := Shut.mk hW
 have HB := Shut.mk hb
 clear h hb hk hW hA
 have e0 : IntKind.i64.wrap (m.k.tr + 1) = m.k.tr + 1 := by
  obtain ⟨_, h1, _, h2, _⟩ := hi
  rw [IntKind.wrap_i64]; unfold I64 at h1; omega
 have e1 : IntKind.i64.wrap (m.k.sh.tdiv 2) = m.k.sh / 2 := by
  obtain ⟨h1, _, _, _, h3, h4⟩ := hi
  rw [IntKind.wrap_i64, Int.tdiv_eq_ediv_of_nonneg h3]
  unfold I64 at h1; omega
 have e2 : ¬ (m.k.sh < 2 ∨ r.n ≠ m.k.sh / 2) → IntKind.i64.wrap (m.k.sh - r.n) = m.k.sh - r.n := by
  intro _
  obtain ⟨h1, _, h2, _, h3, h4⟩ := hi
  rw [IntKind.wrap_i64]
  omega
 by_cases p1 : r.p = me
 ·have hr : m.k.give me r.p r.n r.y = (5, m.k) := by unfold Kp.give; rw [if_pos p1]
  rw [hr]
  have R : Shut (DoesR w g o pre post 5 m W) := ⟨fun e => absurd e (by decide), H.out.2⟩
  subst p1
  have q1 : (r.p == r.p) = true := by simp
  clear e0 e1 e2 hi hr
  unfold rcV
  go_enter Tryz.func74, Tryz.ntmps74
  go_upto_region 1 with fail
  rw [HW.out]
  clear HW
  go_wp2
  go_ret
  exact ⟨rfl, R⟩
 ·by_cases p2 : m.k.gv ≠ 0 ∨ r.y ≠ m.k.tr + 1
  ·have hr : m.k.give me r.p r.n r.y = (7, m.k) := by unfold Kp.give; rw [if_neg p1, if_pos p2]
   rw [hr]
   have q1 : (r.p == me) = false := by simpa using p1
   have R : ∀ V : World, V.heap = W.heap → Below w.heap.size w V → Shut (DoesR w g o pre post 7 m V) := fun V _ hv => ⟨fun e => absurd e (by decide), grown_of _ hv⟩
   have hbW := HB.out
   clear e1 e2 hi hr
   rcases eqDec m.k.gv 0 with ⟨z1, z2, z3, z4⟩ | ⟨z1, z2, z3, z4⟩
   ·have q23 : (r.y == m.k.tr + 1) = false ∧ (r.y != m.k.tr + 1) = true := by
     refine ⟨?_, ?_⟩ <;> simp <;> omega
    obtain ⟨q23, q24⟩ := q23
    clear z1 p1 p2
    unfold rcV
    go_enter Tryz.func74, Tryz.ntmps74
    go_upto_region 1 with fail
    rw [HW.out]
    clear HW
    go_upto_region 3 with fail
    go_region
    all_goals
     go_wp2
     go_ret
     exact ⟨rfl, R _ rfl hbW.drew⟩
   ·clear z1 p1 p2
    unfold rcV
    go_enter Tryz.func74, Tryz.ntmps74
    go_upto_region 1 with fail
    rw [HW.out]
    clear HW
    go_upto_region 3 with fail
    go_region
    all_goals
     go_wp2
     go_ret
     exact ⟨rfl, R _ rfl hbW.drew⟩
  ·by_cases p3 : m.k.sh < 2 ∨ r.n ≠ m.k.sh / 2
   ·have hr : m.k.give me r.p r.n r.y = (3, m.k) := by unfold Kp.give; rw [if_neg p1, if_neg p2, if_pos p3]
    rw [hr]
    have q1 : (r.p == me) = false := by simpa using p1
    have R : ∀ V : World, V.heap = W.heap → Below w.heap.size w V → Shut (DoesR w g o pre post 3 m V) := fun V _ hv => ⟨fun e => absurd e (by decide), grown_of _ hv⟩
    have hbW := HB.out
    have q2 : (m.k.gv == 0) = true ∧ (m.k.gv != 0) = false ∧ (r.y == m.k.tr + 1) = true ∧ (r.y != m.k.tr + 1) = false := by
     refine ⟨?_, ?_, ?_, ?_⟩ <;> simp <;> omega
    obtain ⟨q21, q22, q23, q24⟩ := q2
    clear e2 hi hr
    by_cases s1 : m.k.sh < 2
    ·clear p1 p2 p3
     unfold rcV
     go_enter Tryz.func74, Tryz.ntmps74
     go_upto_region 1 with fail
     rw [HW.out]
     clear HW
     go_upto_region 3 with fail
     go_region
     all_goals go_upto_region 5 with fail
     all_goals go_region
     all_goals
      go_wp2
      go_ret
      exact ⟨rfl, R _ rfl hbW.drew.drew⟩
    ·have q3 : (r.n == m.k.sh / 2) = false ∧ (r.n != m.k.sh / 2) = true := by
      refine ⟨?_, ?_⟩ <;> simp <;> omega
     obtain ⟨q32, q33⟩ := q3
     clear p1 p2 p3
     unfold rcV
     go_enter Tryz.func74, Tryz.ntmps74
     go_upto_region 1 with fail
     rw [HW.out]
     clear HW
     go_upto_region 3 with fail
     go_region
     all_goals go_upto_region 5 with fail
     all_goals go_region
     all_goals
      go_wp2
      go_ret
      exact ⟨rfl, R _ rfl hbW.drew.drew⟩
   ·have hr : m.k.give me r.p r.n r.y = (0, { m.k with sh := m.k.sh - r.n, gv := r.n, tw := r.p, tr := r.y }) := by unfold Kp.give; rw [if_neg p1, if_neg p2, if_neg p3]
    rw [hr]
    have e2' := e2 p3
    have q1 : (r.p == me) = false := by simpa using p1
    have q2 : (m.k.gv == 0) = true ∧ (m.k.gv != 0) = false ∧ (r.y == m.k.tr + 1) = true ∧ (r.y != m.k.tr + 1) = false := by
     refine ⟨?_, ?_, ?_, ?_⟩ <;> simp <;> omega
    have q3 : ¬ m.k.sh < 2 ∧ (r.n == m.k.sh / 2) = true ∧ (r.n != m.k.sh / 2) = false := by
     refine ⟨?_, ?_, ?_⟩ <;> simp <;> omega
    obtain ⟨q21, q22, q23, q24⟩ := q2
    obtain ⟨q31, q32, q33⟩ := q3
    clear e2 hi p1 p2 p3 hr
    unfold rcV
    go_enter Tryz.func74, Tryz.ntmps74
    go_upto_region 1 with fail
    rw [HW.out]
    clear HW
    go_upto_region 3 with fail
    go_region
    all_goals go_upto_region 5 with fail
    all_goals go_region
    all_goals go_upto_region 7 with fail
    all_goals go_region
    all_goals go_upto_region 8 with fail
    obtain ⟨V, hV⟩ : ∃ V, (W.setCell ⟨g, o + 9, none⟩ (.int .i64 (m.k.sh - r.n))).drew.drew.drew = V := ⟨_, rfl⟩
    have HA : Shut (At16 V g o pre post (m.cells.set 9 (.int .i64 (m.k.sh - r.n))) ∧ w.grownBy V (some g)) := by
     rw [← hV]
     exact ⟨At16.blk (At16.set H.out.1 9 (by show 9 < 16; omega) _) rfl, grown_of_drew (grown_set H.out.2 _ _)⟩
    have v1 : V.cell? ⟨w.heap.size, 1, none⟩ = some (.int .i64 r.p) := by rw [← hV]; exact cellOff b1 hne
    have v2 : V.cell? ⟨w.heap.size, 2, none⟩ = some (.int .i64 r.n) := by rw [← hV]; exact cellOff b2 hne
    have v3 : V.cell? ⟨w.heap.size, 3, none⟩ = some (.int .i64 r.y) := by rw [← hV]; exact cellOff b3 hne
    rw [hV]
    clear hV b0 b1 b2 b3 b4 b5 b6 b7 b8 b9 b10 b11 b12 c9 c10 c11 c12 f9 f10 f11 f12 e0 e1 e2' q1 q21 q22 q23 q24 q31 q32 q33 H
    have c10 := HA.out.1.cell 10 _ rfl
    have c11 := HA.out.1.cell 11 _ rfl
    have c12 := HA.out.1.cell 12 _ rfl
    have f10 := HA.out.1.frz (o + 10)
    have f11 := HA.out.1.frz (o + 11)
    have f12 := HA.out.1.frz (o + 12)
    go_region_held3 (fun w' => w'.cell? ⟨w.heap.size, 1, none⟩ = some (.int .i64 r.p) ∧ w'.cell? ⟨w.heap.size, 2, none⟩ = some (.int .i64 r.n) ∧ w'.cell? ⟨w.heap.size, 3, none⟩ = some (.int .i64 r.y)) (refine ⟨?_, ?_, ?_⟩ <;> (repeat' (first | assumption | refine cellOff ?_ hne))) (fail)
    all_goals
     go_wp2
     go_ret
     refine ⟨rfl, ⟨fun _ => At16.drew (At16.conv (At16.set (At16.set (At16.set HA.out.1 _ ?_ _) _ ?_ _) _ ?_ _) ?_), grown_drew (grown_set (grown_set (grown_set HA.out.2 _ _) _ _) _ _)⟩⟩
    all_goals first | rfl | (show _ < 16; omega)

end Go.Proofs.YtakkajjoeimkdaaGreatDoor

namespace Go.Proofs.YtakkajjoeimkdaaGreatDoor
open Go.RowKit
set_option linter.unusedVariables false
set_option linter.unusedSimpArgs false

structure ChgR (B : Nat) (w w' : World) (g o : Nat) (pre post : List Value) (m m' : MKp) : Prop where
 at' : At16 w' g o pre post m'.cells
 new : NewM w' B m'
 far : ∀ b, b < w.heap.size → FarM b m → ¬ growB m b → FarM b m' ∧ ¬ growB m' b
 grow : ∀ b, growB m' b → growB m b ∨ w.heap.size ≤ b
 rest : ∀ k, k < w.heap.size → k ≠ g → ¬ growB m k → w'.heap[k]? = w.heap[k]?
 os : w'.os = w.os
 tape : w'.tape = w.tape
 output : w'.output = w.output
 size : w.heap.size ≤ w'.heap.size

theorem ChgR.below {B : Nat} {w w' : World} {g o : Nat} {pre post : List Value} {m m' : MKp} (h : ChgR B w w' g o pre post m m') (hN : NewM w B m) (hg : B ≤ g) (hs : B ≤ w.heap.size) : Below B w w' :=
 ⟨h.os, h.tape, h.output, h.size, fun k hk => h.rest k (by omega) (by omega) (fun e => by have := (hN.grow_lt e).1; omega)⟩

theorem drop_cons {α : Type} {l : List α} {i : Nat} {x : α} (h : l[i]? = some x) : l.drop i = x :: l.drop (i + 1) := by
 obtain ⟨hi, rfl⟩ := List.getElem?_eq_some_iff.1 h
 exact List.drop_eq_getElem_cons hi

theorem kpCells_cons (m : MKp) (l : List MKp) : kpCells (m :: l) = m.cells ++ kpCells l := rfl

theorem kpCells_split {L : List MKp} {i : Nat} {m : MKp} (h : L[i]? = some m) : kpCells L = kpCells (L.take i) ++ m.cells ++ kpCells (L.drop (i + 1)) := by
 conv => lhs; rw [← List.take_append_drop i L, drop_cons h, kpCells_append, kpCells_cons]
 rw [List.append_assoc]

theorem own_at16 {w : World} {B n g cp i : Nat} {L : List MKp} {m : MKp} (h : w.ownsRow B 88 16 (.slice (some ⟨g, 0, none⟩) n cp) n (kpCells L)) (hm : L[i]? = some m) :
  ∃ post, At16 w g (16 * i) (kpCells (L.take i)) post m.cells ∧ ∀ (w' : World) (m' : MKp), At16 w' g (16 * i) (kpCells (L.take i)) post m'.cells → w'.ownsRow B 88 16 (.slice (some ⟨g, 0, none⟩) n cp) n (kpCells (L.set i m')) := by
 have hi := (List.getElem?_eq_some_iff.1 hm).1
 have hln : L.length = n := by have := h.1; rw [kpCells_length] at this; omega
 rcases h.2 with ⟨h0, _⟩ | ⟨g', cap', cur, h0, h1, hc, h2, h3, h4, h5⟩
 ·cases h0
 ·simp only [Value.slice.injEq, Option.some.injEq, Addr.mk.injEq] at h0
  obtain ⟨⟨rfl, _⟩, _, rfl⟩ := h0
  have hcur : cur.toList = kpCells (L.take i) ++ m.cells ++ (kpCells (L.drop (i + 1)) ++ cur.toList.drop (n * 16)) := by
   conv => lhs; rw [← List.take_append_drop (n * 16) cur.toList, h5, kpCells_split hm]
   simp only [List.append_assoc]
  have hpl : (kpCells (L.take i)).length = 16 * i := by rw [kpCells_length, List.length_take]; omega
  refine ⟨kpCells (L.drop (i + 1)) ++ cur.toList.drop (n * 16), ⟨?_, hpl⟩, fun w' m' ha => ?_⟩
  ·rw [hc, ← hcur]
  ·have hset : L.set i m' = L.take i ++ m' :: L.drop (i + 1) := by rw [List.set_eq_take_append_cons_drop, if_pos hi]
   have hk : kpCells (L.set i m') = kpCells (L.take i) ++ m'.cells ++ kpCells (L.drop (i + 1)) := by rw [hset, kpCells_append, kpCells_cons, List.append_assoc]
   have hkl : (kpCells (L.set i m')).length = n * 16 := by rw [kpCells_length, List.length_set]; omega
   refine ⟨hkl, .inr ⟨g, cp, _, rfl, h1, ha.1, h2, h3, ?_, ?_⟩⟩
   ·have e1 : cur.size = cur.toList.length := by simp
    have e2 := congrArg List.length hcur
    have e3 : m'.cells.length = m.cells.length := rfl
    rw [List.size_toArray]
    simp only [List.length_append] at e2 ⊢
    omega
   ·show List.take (n * 16) (kpCells (L.take i) ++ m'.cells ++ (kpCells (L.drop (i + 1)) ++ cur.toList.drop (n * 16))) = _
    rw [← List.append_assoc, ← hk, ← hkl, List.take_left']
    rfl

theorem PlNew.chg {B : Nat} {w w' : World} {l : List Kp} {L : List MKp} {g cp i : Nat} {m m' : MKp} {post : List Value} (h : PlNew B w l L (some ⟨g, 0, none⟩) cp) (hm : L[i]? = some m)
  (hown : w'.ownsRow B 88 16 (.slice (some ⟨g, 0, none⟩) l.length cp) l.length (kpCells (L.set i m'))) (hc : ChgR B w w' g (16 * i) (kpCells (L.take i)) post m m') :
  PlNew B w' (l.set i m'.k) (L.set i m') (some ⟨g, 0, none⟩) cp := by
 have hmem := h.new m (List.mem_of_getElem? hm)
 have hgw : g < w.heap.size := (h.own.lt g rfl).2
 have hi := (List.getElem?_eq_some_iff.1 hm).1
 have hfr : ∀ j x, L[j]? = some x → j ≠ i → NewM w' B x := fun j x hx hj => by
  have h1 := h.new x (List.mem_of_getElem? hx)
  have h2 : ∀ b, growB m b → FarM b x ∧ ¬ growB x b := fun b hb => h.far i j m x (fun e => hj e.symm) hm hx b hb
  exact h1.1.keep (fun b => b = g ∨ growB m b) (fun b hb => by
   rcases hb with rfl | hb
   ·exact h1.2 _ _ rfl
   ·exact h2 b hb) (fun k hk hP => hc.rest k hk (fun e => hP (.inl e)) (fun e => hP (.inr e)))
 refine ⟨?_, by rw [List.length_set]; exact hown, fun x hx => ?_, fun j k x y hjk hj hk b hb => ?_⟩
 ·rw [List.map_set, h.says]
 ·obtain ⟨j, hj⟩ := List.mem_iff_getElem?.1 hx
  rw [List.getElem?_set] at hj
  split at hj
  ·obtain rfl := Option.some.inj (show some m' = some x from by simpa [hi] using hj)
   refine ⟨hc.new, fun g' o e => ?_⟩
   simp only [Option.some.injEq, Addr.mk.injEq] at e
   obtain ⟨rfl, _⟩ := e
   exact hc.far _ hgw (hmem.2 _ _ rfl).1 (hmem.2 _ _ rfl).2
  ·exact ⟨hfr j x hj (fun e => by omega), (h.new x (List.mem_of_getElem? hj)).2⟩
 ·rw [List.getElem?_set] at hj hk
  split at hj
  ·obtain rfl := Option.some.inj (show some m' = some x from by simpa [hi] using hj)
   rw [if_neg (by omega)] at hk
   rcases hc.grow b hb with hb | hb
   ·exact h.far i k m y (by omega) hm hk b hb
   ·have h1 := h.new y (List.mem_of_getElem? hk)
    exact ⟨farM_old h1.1.inn hb, fun e => by have := (h1.1.grow_lt e).2; omega⟩
  ·have h1 := h.new x (List.mem_of_getElem? hj)
   split at hk
   ·obtain rfl := Option.some.inj (show some m' = some y from by simpa [hi] using hk)
    have h2 := h.far j i x m (by omega) hj hm b hb
    exact hc.far b (h1.1.grow_lt hb).2 h2.1 h2.2
   ·exact h.far j k x y hjk hj hk b hb

theorem ChgR.of {B : Nat} {w w' : World} {g o : Nat} {pre post : List Value} {z : Int} {m m' : MKp} (h : DoesR w g o pre post z m' w') (hz : z = 0) (hN : NewM w B m) (hf : FarM g m) (hgr : ¬ growB m g) (hg : B ≤ g)
  (e1 : m'.ca = m.ca) (e2 : m'.cc = m.cc) (e3 : m'.ya = m.ya) (e4 : m'.yc = m.yc) (e5 : m'.ys = m.ys) (e6 : m'.ta = m.ta) (e7 : m'.tc = m.tc) (e8 : m'.k.c = m.k.c) (e9 : m'.k.ss = m.k.ss) (e10 : m'.k.tk = m.k.tk) : ChgR B w w' g o pre post m m' := by
 obtain ⟨k, ca, cc, ya, yc, ys, ta, tc⟩ := m
 obtain ⟨k', ca', cc', ya', yc', ys', ta', tc'⟩ := m'
 simp only at e1 e2 e3 e4 e5 e6 e7 e8 e9 e10
 subst e1 e2 e3 e4 e5 e6 e7
 have hk : ∀ j, j < w.heap.size → j ≠ g → w'.heap[j]? = w.heap[j]? := fun j h1 h2 => h.2.block j h1 (fun e => h2 (Option.some.inj e))
 have hfar : ∀ b, FarM b ⟨k, ca', cc', ya', yc', ys', ta', tc'⟩ → FarM b ⟨k', ca', cc', ya', yc', ys', ta', tc'⟩ := fun b hb => ⟨fun e => hb.c (by rw [← e8]; exact e), hb.y, hb.ys, fun e => hb.t (by rw [← e10]; exact e)⟩
 have h1 : NewM w' B ⟨k, ca', cc', ya', yc', ys', ta', tc'⟩ := hN.keep (fun b => b = g) (fun b hb => by subst hb; exact ⟨hf, hgr⟩) (fun j hj h2 => hk j hj h2)
 refine ⟨h.1 hz, ?_, fun b _ h1 h2 => ⟨hfar b h1, h2⟩, fun b hb => .inl hb, fun j h1 h2 _ => hk j h1 h2, h.2.os, h.2.tape, h.2.output, h.2.size⟩
 refine ⟨⟨?_, h1.inn.y, h1.inn.ys, ?_, ?_⟩, ⟨?_, h1.fits.y, ?_, ?_, h1.fits.yc, ?_⟩, h1.ca, h1.ya, h1.ta, h1.ys, ⟨h1.own.1, ?_⟩, ⟨h1.sep.1, fun e => h1.sep.2.1 (by rw [← e8]; exact e), fun e => h1.sep.2.2.1 (by rw [← e8]; exact e), h1.sep.2.2.2⟩⟩
 ·have := h1.inn.c; simp only at this ⊢; rw [e8]; exact this
 ·have := h1.inn.says; simp only at this ⊢; rw [e9]; exact this
 ·have := h1.inn.t; simp only at this ⊢; rw [e10]; exact this
 ·have := h1.fits.c; simp only at this ⊢; rw [e8]; exact this
 ·have := h1.fits.t; simp only at this ⊢; rw [e10]; exact this
 ·have := h1.fits.cc; simp only at this ⊢; rw [e8]; exact this
 ·have := h1.fits.tc; simp only at this ⊢; rw [e10]; exact this
 ·have := h1.own.2; simp only at this ⊢; rw [e10]; exact this

end Go.Proofs.YtakkajjoeimkdaaGreatDoor
