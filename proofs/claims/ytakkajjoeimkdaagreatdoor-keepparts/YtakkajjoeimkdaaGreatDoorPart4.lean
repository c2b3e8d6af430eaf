import Derived.Test.YtakkajjoeimkdaaGreatDoorPart3
import Derived.Test.YtakkajjoeimkdaaGreatDoorPart1
import Derived.Deep.CutBlock
namespace Go.Proofs.YtakkajjoeimkdaaGreatDoor
set_option linter.unusedVariables false
set_option linter.unusedSimpArgs false

def rowsOf (R : Nat → V) (n : Nat) : List V := (List.range n).map R

theorem mem_rowsOf {R : Nat → V} {n : Nat} {v : V} : v ∈ rowsOf R n ↔ ∃ j, j < n ∧ R j = v := by simp [rowsOf]

theorem rowsOf_length (R : Nat → V) (n : Nat) : (rowsOf R n).length = n := by simp [rowsOf]

structure El (R : Nat → V) (N at' c : Nat) (L : Nat → Nat) : Prop where
 le : at' ≤ N
 lead : ∀ i, i < at' → Lead (R i) (L i) ∧ L i < c
 mono : ∀ i j, i < j → j < at' → L i < L j
 apart : ∀ i, i < at' → ∀ j, j < N → j ≠ i → (R j).has (L i) = false
 rest : ∀ j, at' ≤ j → j < N → ∀ m, m < c → (R j).has m = false

theorem El.start (R : Nat → V) (N : Nat) : El R N 0 0 (fun _ => 0) := ⟨Nat.zero_le _, fun i h => by omega, fun i j _ h => by omega, fun i h => by omega, fun j _ _ m h => by omega⟩

theorem El.pass {R : Nat → V} {N a c : Nat} {L : Nat → Nat} (h : El R N a c L) (hn : ∀ j, a ≤ j → j < N → (R j).has c = false) : El R N a (c + 1) L := by
 refine ⟨h.le, fun i hi => ⟨(h.lead i hi).1, by have := (h.lead i hi).2; omega⟩, h.mono, h.apart, fun j h1 h2 m hm => ?_⟩
 rcases Nat.lt_or_ge m c with hl | hl
 ·exact h.rest j h1 h2 m hl
 ·obtain rfl : m = c := by omega
  exact hn j h1 h2

def swapR (R : Nat → V) (a w : Nat) (j : Nat) : V := if j = a then R w else if j = w then R a else R j

def clrR (R : Nat → V) (a c : Nat) (j : Nat) : V := if j = a then R j else clr (R a) c (R j)

theorem El.take {R : Nat → V} {N a c w : Nat} {L : Nat → Nat} (h : El R N a c L) (h1 : a ≤ w) (h2 : w < N) (hw : (R w).has c = true) :
  El (clrR (swapR R a w) a c) N (a + 1) (c + 1) (fun i => if i = a then c else L i) := by
 have hp : Lead (R w) c := ⟨hw, fun m hm => h.rest w h1 h2 m hm⟩
 have hSa : swapR R a w a = R w := by simp [swapR]
 have hlow : ∀ i, i < a → swapR R a w i = R i := fun i hi => by simp [swapR, show ¬ i = a by omega, show ¬ i = w by omega]
 have hhigh : ∀ j, a < j → j < N → ∃ j', a ≤ j' ∧ j' < N ∧ swapR R a w j = R j' := fun j h3 h4 => by
  by_cases e : j = w
  ·exact ⟨a, Nat.le_refl _, by omega, by simp [swapR, show ¬ j = a by omega, e]; intro e'; omega⟩
  ·exact ⟨j, by omega, h4, by simp [swapR, show ¬ j = a by omega, e]⟩
 have hca : clrR (swapR R a w) a c a = R w := by simp [clrR, hSa]
 have hcl : ∀ i, i < a → clrR (swapR R a w) a c i = clr (R w) c (R i) := fun i hi => by simp [clrR, show ¬ i = a by omega, hSa, hlow i hi]
 have hch : ∀ j, a < j → j < N → ∃ j', a ≤ j' ∧ j' < N ∧ clrR (swapR R a w) a c j = clr (R w) c (R j') := fun j h3 h4 => by
  obtain ⟨j', g1, g2, g3⟩ := hhigh j h3 h4
  exact ⟨j', g1, g2, by simp [clrR, show ¬ j = a by omega, hSa, g3]⟩
 refine ⟨by have := h.le; omega, fun i hi => ?_, fun i j hij hj => ?_, fun i hi j hj hne => ?_, fun j g1 g2 m hm => ?_⟩
 ·by_cases e : i = a
  ·subst e
   rw [hca, if_pos rfl]
   exact ⟨hp, by omega⟩
  ·rw [if_neg e, hcl i (by omega)]
   have hli := h.lead i (by omega)
   exact ⟨clr_lead hp hli.1 (h.apart i (by omega) w h2 (by omega)) (by omega), by omega⟩
 ·by_cases e : j = a
  ·subst e
   rw [if_pos rfl, if_neg (by omega)]
   exact (h.lead i (by omega)).2
  ·rw [if_neg e, if_neg (by omega)]
   exact h.mono i j hij (by omega)
 ·by_cases e : i = a
  ·subst e
   rw [if_pos rfl]
   rcases Nat.lt_trichotomy j i with g | g | g
   ·rw [hcl j g]; exact clr_has hw
   ·exact absurd g hne
   ·obtain ⟨j', _, _, g3⟩ := hch j g hj
    rw [g3]; exact clr_has hw
  ·rw [if_neg e]
   have hz := h.apart i (by omega) w h2 (by omega)
   rcases Nat.lt_trichotomy j a with g | g | g
   ·rw [hcl j g, clr_low hz]; exact h.apart i (by omega) j hj hne
   ·subst g; rw [hca]; exact hz
   ·obtain ⟨j', g1, g2, g3⟩ := hch j g hj
    rw [g3, clr_low hz]; exact h.apart i (by omega) j' g2 (by omega)
 ·obtain ⟨j', g1', g2', g3⟩ := hch j (by omega) g2
  rw [g3]
  rcases Nat.lt_or_ge m c with hl | hl
  ·rw [clr_low (h.rest w h1 h2 m hl)]; exact h.rest j' g1' g2' m hl
  ·obtain rfl : m = c := by omega
   exact clr_has hw

theorem take_span {R : Nat → V} {N a c w : Nat} (h1 : a ≤ w) (h2 : w < N) (v : V) : Span (rowsOf (clrR (swapR R a w) a c) N) v ↔ Span (rowsOf R N) v := by
 have hSa : swapR R a w a = R w := by simp [swapR]
 have hca : clrR (swapR R a w) a c a = R w := by simp [clrR, hSa]
 constructor
 ·refine Span.sub fun r hr => ?_
  obtain ⟨j, hj, rfl⟩ := mem_rowsOf.1 hr
  have hm : ∀ i, i < N → Span (rowsOf R N) (R i) := fun i hi => .mem (mem_rowsOf.2 ⟨i, hi, rfl⟩)
  have hsw : Span (rowsOf R N) (swapR R a w j) := by
   unfold swapR
   split
   ·exact hm w h2
   ·split
    ·exact hm a (by omega)
    ·exact hm j hj
  unfold clrR
  split
  ·exact hsw
  ·rw [hSa]; exact clr_span hsw (hm w h2)
 ·refine Span.sub fun r hr => ?_
  obtain ⟨j, hj, rfl⟩ := mem_rowsOf.1 hr
  have hm : ∀ i, i < N → Span (rowsOf (clrR (swapR R a w) a c) N) (clrR (swapR R a w) a c i) := fun i hi => .mem (mem_rowsOf.2 ⟨i, hi, rfl⟩)
  have hp : Span (rowsOf (clrR (swapR R a w) a c) N) (R w) := by have := hm a (by omega); rwa [hca] at this
  have hsw : ∀ i, i < N → i ≠ a → Span (rowsOf (clrR (swapR R a w) a c) N) (swapR R a w i) := fun i hi hne => by
   have := hm i hi
   rw [clrR, if_neg hne, hSa] at this
   exact span_clr this hp
  by_cases e : j = w
  ·subst e; exact hp
  ·by_cases e' : j = a
   ·subst e'
    have := hsw w h2 (fun e' => e e'.symm)
    rwa [swapR, if_neg (fun e' => e e'.symm), if_pos rfl] at this
   ·have := hsw j hj e'
    rwa [swapR, if_neg e', if_neg e] at this

theorem El.sys {R : Nat → V} {N a c : Nat} {L : Nat → Nat} (h : El R N a c L) : Sys (rowsOf R a) := by
 refine ⟨fun r hr => ?_, ?_⟩
 ·obtain ⟨j, hj, rfl⟩ := mem_rowsOf.1 hr
  exact ⟨_, (h.lead j hj).1⟩
 ·unfold rowsOf
  rw [List.pairwise_map]
  refine List.Pairwise.imp_of_mem ?_ (List.pairwise_lt_range (n := a))
  intro i j hi hj hij
  have hi : i < a := by simpa using hi
  have hj : j < a := by simpa using hj
  exact ⟨L i, L j, (h.lead i hi).1, (h.lead j hj).1, h.mono i j hij hj, h.apart j hj i (by have := h.le; omega) (by omega)⟩

def bare (v : V) : V := ⟨v.has, fun _ => 0⟩

theorem bare_add (a b : V) : bare (a.add b) = (bare a).add (bare b) := V.ext' (fun k => rfl) (fun k => by simp [bare, V.add])
theorem Span.bare {S : List V} {v : V} (h : Span S v) : Span (S.map bare) (bare v) := by
 induction h with
 | o => exact .o
 | step hr _ ih => rw [bare_add]; exact .step (List.mem_map_of_mem hr) ih

theorem span_of_bare {S : List V} {u : V} (h : Span (S.map bare) u) : ∃ v, Span S v ∧ bare v = u := by
 induction h with
 | o => exact ⟨V.o, .o, rfl⟩
 | step hr _ ih =>
  obtain ⟨s, hs, rfl⟩ := List.mem_map.1 hr
  obtain ⟨v, hv, rfl⟩ := ih
  exact ⟨v.add s, .step hs hv, bare_add _ _⟩

theorem Sys.bare {A : List V} (h : Sys A) : Sys (A.map bare) := by
 refine ⟨fun r hr => ?_, ?_⟩
 ·obtain ⟨a, ha, rfl⟩ := List.mem_map.1 hr
  exact h.lead a ha
 ·rw [List.pairwise_map]
  exact h.pair.imp fun hab => hab

def None' (v : V) : Prop := ∀ k, v.has k = false

theorem bare_none {v : V} (h : None' v) : bare v = V.o := V.ext' (fun k => by rw [show (bare v).has k = v.has k from rfl, h k]; rfl) (fun k => rfl)

theorem Sys.none {A : List V} (h : Sys A) {v : V} (hv : Span A v) (hn : None' v) : v = V.o := h.nought hv fun r hr k hk => hn k

structure Anew (n : Nat) (A : List V) (r : V) (R : Nat → V) (a : Nat) (L : Nat → Nat) : Prop where
 el : El R (A.length + 1) a n L
 span : ∀ v, Span (rowsOf R (A.length + 1)) v ↔ Span (A ++ [r]) v

theorem Anew.rest_none {n a : Nat} {A : List V} {r : V} {R : Nat → V} {L : Nat → Nat} (h : Anew n A r R a L) (hA : ∀ s ∈ A, Of n s) (hr : Of n r) : ∀ j, a ≤ j → j < A.length + 1 → None' (R j) := by
 intro j h1 h2 k
 rcases Nat.lt_or_ge k n with hl | hl
 ·exact h.el.rest j h1 h2 k hl
 ·have hs : Span (A ++ [r]) (R j) := (h.span _).1 (.mem (mem_rowsOf.2 ⟨j, h2, rfl⟩))
  exact hs.of (fun s hs => by rcases List.mem_append.1 hs with hs | hs; exact hA s hs; rw [List.mem_singleton.1 hs]; exact hr) k hl

theorem Anew.all {n a : Nat} {A : List V} {r : V} {R : Nat → V} {L : Nat → Nat} (h : Anew n A r R a L) (hz : ∀ j, a ≤ j → j < A.length + 1 → R j = V.o) (v : V) : Span (rowsOf R a) v ↔ Span (A ++ [r]) v := by
 rw [← h.span]
 constructor
 ·refine Span.mono fun x hx => ?_
  obtain ⟨j, hj, rfl⟩ := mem_rowsOf.1 hx
  exact mem_rowsOf.2 ⟨j, by have := h.el.le; omega, rfl⟩
 ·refine Span.sub fun x hx => ?_
  obtain ⟨j, hj, rfl⟩ := mem_rowsOf.1 hx
  rcases Nat.lt_or_ge j a with hl | hl
  ·exact .mem (mem_rowsOf.2 ⟨j, hl, rfl⟩)
  ·rw [hz j hl hj]; exact .o

theorem Anew.more {n a : Nat} {A P : List V} {r : V} {R : Nat → V} {L : Nat → Nat} (h : Anew n A r R a L) (hA : ∀ s ∈ A, Of n s) (hr : Of n r) (hP : Sys P) (hsp : ∀ v, Span P v ↔ Span (A ++ [r]) v) : rowsOf R a = P := by
 refine h.el.sys.uniq hP fun v => ?_
 rw [hsp]
 refine h.all (fun j h1 h2 => ?_) v
 have hs : Span P (R j) := (hsp _).2 ((h.span _).1 (.mem (mem_rowsOf.2 ⟨j, h2, rfl⟩)))
 exact hP.none hs (h.rest_none hA hr j h1 h2)

theorem Anew.count {n a : Nat} {A : List V} {r : V} {R : Nat → V} {L : Nat → Nat} (h : Anew n A r R a L) (hA : ∀ s ∈ A, Of n s) (hr : Of n r) (hS : Sys A) (hp : None' (red n A r)) : a = A.length := by
 have hz := h.rest_none hA hr
 have h1 : (rowsOf R a).map bare = A.map bare := by
  refine h.el.sys.bare.uniq hS.bare fun u => ?_
  have hred : Span A ((red n A r).add r) := red_span n A r
  constructor
  ·intro hu
   obtain ⟨v, hv, rfl⟩ := span_of_bare hu
   have hv2 : Span (A ++ [red n A r]) v := (red_same n A r v).1 ((h.span v).1 (hv.mono fun x hx => by
    obtain ⟨j, hj, rfl⟩ := mem_rowsOf.1 hx
    exact mem_rowsOf.2 ⟨j, by have := h.el.le; omega, rfl⟩))
   have hv3 := hv2.bare
   refine hv3.sub fun x hx => ?_
   obtain ⟨y, hy, rfl⟩ := List.mem_map.1 hx
   rcases List.mem_append.1 hy with hy | hy
   ·exact .mem (List.mem_map_of_mem hy)
   ·rw [List.mem_singleton.1 hy, bare_none hp]; exact .o
  ·intro hu
   obtain ⟨v, hv, rfl⟩ := span_of_bare hu
   have hv2 : Span (rowsOf R (A.length + 1)) v := (h.span v).2 (hv.mono fun x hx => List.mem_append_left _ hx)
   refine hv2.bare.sub fun x hx => ?_
   obtain ⟨y, hy, rfl⟩ := List.mem_map.1 hx
   obtain ⟨j, hj, rfl⟩ := mem_rowsOf.1 hy
   rcases Nat.lt_or_ge j a with hl | hl
   ·exact .mem (List.mem_map_of_mem (mem_rowsOf.2 ⟨j, hl, rfl⟩))
   ·rw [bare_none (hz j hl hj)]; exact .o
 have := congrArg List.length h1
 simpa [rowsOf_length] using this

theorem Anew.same {n a : Nat} {A : List V} {r : V} {R : Nat → V} {L : Nat → Nat} (h : Anew n A r R a L) (hA : ∀ s ∈ A, Of n s) (hr : Of n r) (hS : Sys A) (hp : red n A r = V.o) : a = A.length ∧ rowsOf R a = A ∧ R A.length = V.o := by
 have hc := h.count hA hr hS (by rw [hp]; exact fun k => rfl)
 have hsp : ∀ v, Span A v ↔ Span (A ++ [r]) v := fun v => by
  rw [red_same n A r v, hp]
  constructor
  ·exact Span.mono fun x hx => List.mem_append_left _ hx
  ·refine Span.sub fun x hx => ?_
   rcases List.mem_append.1 hx with hx | hx
   ·exact .mem hx
   ·rw [List.mem_singleton.1 hx]; exact .o
 refine ⟨hc, h.more hA hr hS hsp, ?_⟩
 have hs : Span A (R A.length) := (hsp _).2 ((h.span _).1 (.mem (mem_rowsOf.2 ⟨A.length, by omega, rfl⟩)))
 exact hS.none hs (h.rest_none hA hr A.length (by omega) (by omega))

theorem Anew.torn {n a : Nat} {A : List V} {r : V} {R : Nat → V} {L : Nat → Nat} (h : Anew n A r R a L) (hA : ∀ s ∈ A, Of n s) (hr : Of n r) (hS : Sys A) (hp : None' (red n A r)) (hne : red n A r ≠ V.o) : a = A.length ∧ None' (R A.length) ∧ R A.length ≠ V.o := by
 have hc := h.count hA hr hS hp
 refine ⟨hc, h.rest_none hA hr A.length (by omega) (by omega), fun hz => hne ?_⟩
 have hall := h.all (fun j h1 h2 => by obtain rfl : j = A.length := by omega
                                       exact hz)
 have hs : Span (rowsOf R a) (red n A r) := (hall _).2 ((red_same n A r _).2 (.mem (by simp)))
 exact h.el.sys.none hs hp

def sumAt (B : Nat → Nat → UInt8) (h : Nat → Bool) : Nat → Nat → UInt8
 | 0, _ => 0
 | n + 1, i => sumAt B h n i ^^^ (if h n = true then B n i else 0)

theorem sumAt_add (B : Nat → Nat → UInt8) (a b : V) (n i : Nat) : sumAt B (a.add b).has n i = sumAt B a.has n i ^^^ sumAt B b.has n i := by
 induction n with
 | zero => simp [sumAt]
 | succ n ih =>
  simp only [sumAt, ih, V.has_add]
  have hx : ∀ x y c : UInt8, ∀ p q : Bool, (x ^^^ y ^^^ if (p != q) = true then c else 0) = (x ^^^ if p = true then c else 0) ^^^ (y ^^^ if q = true then c else 0) := by
   intro x y c p q
   have e : c ^^^ (y ^^^ c) = y := by rw [UInt8.xor_comm y c, ← UInt8.xor_assoc, UInt8.xor_self, UInt8.zero_xor]
   cases p <;> cases q <;> simp [UInt8.xor_assoc, e, UInt8.xor_comm c y]
  exact hx _ _ _ _ _

theorem sumAt_none {B : Nat → Nat → UInt8} {h : Nat → Bool} (hn : ∀ k, h k = false) (n i : Nat) : sumAt B h n i = 0 := by
 induction n with
 | zero => rfl
 | succ n ih => simp [sumAt, ih, hn]

theorem sumAt_one {B : Nat → Nat → UInt8} {h : Nat → Bool} {k : Nat} (hk : ∀ j, h j = decide (j = k)) (n i : Nat) : sumAt B h n i = if k < n then B k i else 0 := by
 induction n with
 | zero => simp [sumAt]
 | succ n ih =>
  simp only [sumAt, ih, hk]
  by_cases e : n = k
  ·subst e; simp
  ·rcases Nat.lt_or_gt_of_ne e with hl | hl
   ·simp [e, show ¬ k < n by omega, show ¬ k < n + 1 by omega]
   ·simp [e, show k < n by omega, show k < n + 1 by omega]

def Tr (n : Nat) (B : Nat → Nat → UInt8) (v : V) : Prop := ∀ i, v.dat i = sumAt B v.has n i

theorem Tr.o (n : Nat) (B : Nat → Nat → UInt8) : Tr n B V.o := fun i => (sumAt_none (fun _ => rfl) n i).symm

theorem Tr.add {n : Nat} {B : Nat → Nat → UInt8} {a b : V} (ha : Tr n B a) (hb : Tr n B b) : Tr n B (a.add b) := fun i => by
 rw [sumAt_add, ← ha i, ← hb i]; rfl

theorem Span.tr {n : Nat} {B : Nat → Nat → UInt8} {S : List V} (h : ∀ r ∈ S, Tr n B r) {v : V} (hv : Span S v) : Tr n B v := by
 induction hv with
 | o => exact Tr.o n B
 | step hr _ ih => exact ih.add (h _ hr)

theorem Tr.none {n : Nat} {B : Nat → Nat → UInt8} {v : V} (h : Tr n B v) (hn : None' v) : v = V.o :=
 V.ext' (fun k => by rw [hn k]; rfl) (fun i => by rw [h i, sumAt_none hn]; rfl)

theorem Tr.one {n : Nat} {B : Nat → Nat → UInt8} {v : V} (h : Tr n B v) {k : Nat} (hk : k < n) (ho : ∀ j, v.has j = decide (j = k)) (i : Nat) : v.dat i = B k i := by
 rw [h i, sumAt_one ho, if_pos hk]

theorem rising_le {l : List Nat} : ∀ {lo n : Nat}, l.Pairwise (· < ·) → (∀ x ∈ l, lo ≤ x ∧ x < n) → l.length ≤ n - lo := by
 induction l with
 | nil => intro lo n _ _; simp
 | cons a l ih =>
  intro lo n hp hb
  have ha := hb a List.mem_cons_self
  have hp := List.pairwise_cons.1 hp
  have := ih (lo := a + 1) (n := n) hp.2 fun x hx => ⟨hp.1 x hx, (hb x (List.mem_cons_of_mem _ hx)).2⟩
  simp only [List.length_cons]
  omega

theorem rising_ge {l : List Nat} : ∀ {lo n : Nat}, l.Pairwise (· < ·) → (∀ x ∈ l, lo ≤ x) → (∀ k, lo ≤ k → k < n → k ∈ l) → n - lo ≤ l.length := by
 induction l with
 | nil =>
  intro lo n _ _ h
  rcases Nat.lt_or_ge lo n with hl | hl
  ·exact absurd (h lo (Nat.le_refl _) hl) (by simp)
  ·simp; omega
 | cons a l ih =>
  intro lo n hp hb h
  have hp := List.pairwise_cons.1 hp
  rcases Nat.lt_or_ge lo n with hl | hl
  ·have ha : a = lo := by
    have h1 := hb a List.mem_cons_self
    rcases List.mem_cons.1 (h lo (Nat.le_refl _) hl) with e | hm
    ·exact e.symm
    ·have := hp.1 lo hm; omega
   subst ha
   have := ih (lo := a + 1) (n := n) hp.2 (fun x hx => hp.1 x hx) fun k h1 h2 => by
    rcases List.mem_cons.1 (h k (by omega) h2) with e | hm
    ·omega
    ·exact hm
   simp only [List.length_cons]
   omega
  ·simp only [List.length_cons]; omega

theorem Sys.rising {n : Nat} {A : List V} (h : Sys A) (hn : ∀ r ∈ A, Of n r) : (A.map (fst n)).Pairwise (· < ·) := by
 rw [List.pairwise_map]
 refine h.pair.imp_of_mem fun ha hb hab => ?_
 obtain ⟨j, k, l1, l2, hlt, _⟩ := hab
 rw [fst_lead l1 ((hn _ ha).lead l1), fst_lead l2 ((hn _ hb).lead l2)]
 exact hlt

theorem Sys.fst_lt {n : Nat} {A : List V} (h : Sys A) (hn : ∀ r ∈ A, Of n r) {r : V} (hr : r ∈ A) : fst n r < n := by
 obtain ⟨k, hk⟩ := h.lead r hr
 have := (hn r hr).lead hk
 rw [fst_lead hk this]
 exact this

theorem Sys.few {n : Nat} {A : List V} (h : Sys A) (hn : ∀ r ∈ A, Of n r) : A.length ≤ n := by
 have := rising_le (lo := 0) (n := n) (h.rising hn) fun x hx => by
  obtain ⟨r, hr, rfl⟩ := List.mem_map.1 hx
  exact ⟨Nat.zero_le _, h.fst_lt hn hr⟩
 simpa using this

theorem Sys.full {n : Nat} {A : List V} (h : Sys A) (hn : ∀ r ∈ A, Of n r) (hk : ∀ k, k < n → ∃ v, Span A v ∧ Lead v k) : A.length = n := by
 have h1 := h.few hn
 have h2 := rising_ge (lo := 0) (n := n) (h.rising hn) (fun x _ => Nat.zero_le _) fun k _ hlt => by
  obtain ⟨v, hv, hl⟩ := hk k hlt
  obtain ⟨r, hr, hl'⟩ := h.first hv hl
  exact List.mem_map.2 ⟨r, hr, fst_lead hl' hlt⟩
 simp at h2
 omega

theorem rising_at {l : List Nat} : ∀ {lo n : Nat}, l.Pairwise (· < ·) → (∀ x ∈ l, lo ≤ x ∧ x < n) → l.length = n - lo → ∀ k (hk : k < l.length), l[k] = lo + k := by
 induction l with
 | nil => intro lo n _ _ _ k hk; simp at hk
 | cons a l ih =>
  intro lo n hp hb hl k hk
  have ha := hb a List.mem_cons_self
  have hp := List.pairwise_cons.1 hp
  have hb' : ∀ x ∈ l, a + 1 ≤ x ∧ x < n := fun x hx => ⟨hp.1 x hx, (hb x (List.mem_cons_of_mem _ hx)).2⟩
  have hle := rising_le hp.2 hb'
  simp only [List.length_cons] at hl
  have e : a = lo := by omega
  subst e
  cases k with
  | zero => simp
  | succ k =>
   have := ih hp.2 hb' (by omega) k (by simpa using hk)
   simp only [List.getElem_cons_succ, this]
   omega

theorem Sys.units {n : Nat} {A : List V} (h : Sys A) (hn : ∀ r ∈ A, Of n r) (hl : A.length = n) : ∀ k (hk : k < A.length), ∀ j, (A[k]).has j = decide (j = k) := by
 have hat : ∀ k (hk : k < A.length), Lead A[k] k := fun k hk => by
  have h1 := rising_at (lo := 0) (n := n) (h.rising hn) (fun x hx => by
   obtain ⟨r, hr, rfl⟩ := List.mem_map.1 hx
   exact ⟨Nat.zero_le _, h.fst_lt hn hr⟩) (by simpa using hl) k (by simpa using hk)
  simp only [List.getElem_map, Nat.zero_add] at h1
  have := lead_fst (h.fst_lt hn (List.getElem_mem hk))
  rwa [h1] at this
 intro k hk j
 by_cases e : j = k
 ·subst e
  rw [decide_eq_true rfl]
  exact (hat j hk).1
 ·rw [decide_eq_false e]
  rcases Nat.lt_or_ge j n with hj | hj
  ·cases hh : (A[k]).has j
   ·rfl
   ·have := h.apart (List.getElem_mem (show j < A.length by omega)) (List.getElem_mem hk) (hat j (by omega)) hh
    have h2 := hat k hk
    rw [this] at h2
    exact absurd ((hat j (by omega)).one h2) e
  ·exact hn _ (List.getElem_mem hk) j hj

def nx (x : Nat) : Nat := (x * 1109 + 12345) % 65536

structure Small (x : Nat) : Prop where
 lt : x < 65536

def it : Nat → Nat → Nat
 | 0, x => x
 | n + 1, x => it n (nx x)

theorem it_succ (n x : Nat) : it (n + 1) x = it n (nx x) := by rw [it]

theorem nx_lt (x : Nat) : nx x < 65536 := Nat.mod_lt _ (by decide)

theorem nx_small (x : Nat) : Small (nx x) := ⟨nx_lt x⟩

theorem it_lt {x : Nat} (h : x < 65536) (n : Nat) : it n x < 65536 := by
 induction n generalizing x with
 | zero => exact h
 | succ n ih => exact ih (nx_lt x)

theorem it_small {x : Nat} (h : Small x) (n : Nat) : Small (it n x) := ⟨it_lt h.lt n⟩

theorem it_add (m n x : Nat) : it (m + n) x = it n (it m x) := by
 induction m generalizing x with
 | zero => simp [it]
 | succ m ih => rw [Nat.succ_add, it, it, ih]

def Aff (m A C : Nat) : Prop := ∀ x, it m x % 65536 = (A * x + C) % 65536

theorem aff_one : Aff 1 1109 12345 := fun x => by simp [it, nx, Nat.mul_comm]

theorem aff_two {m A C : Nat} (h : Aff m A C) : Aff (m + m) (A * A % 65536) ((A * C + C) % 65536) := by
 intro x
 rw [it_add, h]
 have e1 : (A * it m x + C) % 65536 = (A * (it m x % 65536) + C) % 65536 := by
  rw [Nat.add_mod, Nat.mul_mod, Nat.add_mod (A * (it m x % 65536)), Nat.mul_mod A (it m x % 65536)]
  simp
 rw [e1, h]
 have e2 : (A * ((A * x + C) % 65536) + C) % 65536 = (A * (A * x + C) + C) % 65536 := by
  rw [Nat.add_mod, Nat.mul_mod, Nat.mod_mod, ← Nat.mul_mod, ← Nat.add_mod]
 have e3 : (A * A % 65536 * x + (A * C + C) % 65536) % 65536 = (A * A * x + (A * C + C)) % 65536 := by
  rw [Nat.add_mod, Nat.mul_mod, Nat.mod_mod, Nat.mod_mod, ← Nat.mul_mod, ← Nat.add_mod]
 rw [e2, e3, Nat.mul_add, Nat.add_assoc, Nat.mul_assoc]

def Turns (k : Nat) : Prop := ∀ x, it (2 ^ k) x % 2 ^ (k + 1) = (x + 2 ^ k) % 2 ^ (k + 1)

theorem turns_of {k A C : Nat} (h : Aff (2 ^ k) A C) (hd : 2 ^ (k + 1) ∣ 65536) (hA : A % 2 ^ (k + 1) = 1 % 2 ^ (k + 1)) (hC : C % 2 ^ (k + 1) = 2 ^ k % 2 ^ (k + 1)) : Turns k := by
 intro x
 rw [← Nat.mod_mod_of_dvd _ hd, h, Nat.mod_mod_of_dvd _ hd, Nat.add_mod, Nat.mul_mod, hA, hC, ← Nat.mul_mod, ← Nat.add_mod, Nat.one_mul]

theorem turns : ∀ k, k < 16 → Turns k := by
 have a0 := aff_one
 have a1 := aff_two a0
 have a2 := aff_two a1
 have a3 := aff_two a2
 have a4 := aff_two a3
 have a5 := aff_two a4
 have a6 := aff_two a5
 have a7 := aff_two a6
 have a8 := aff_two a7
 have a9 := aff_two a8
 have a10 := aff_two a9
 have a11 := aff_two a10
 have a12 := aff_two a11
 have a13 := aff_two a12
 have a14 := aff_two a13
 have a15 := aff_two a14
 intro k hk
 match k, hk with
 | 0, _ => exact turns_of (k := 0) a0 (by decide) (by decide) (by decide)
 | 1, _ => exact turns_of (k := 1) a1 (by decide) (by decide) (by decide)
 | 2, _ => exact turns_of (k := 2) a2 (by decide) (by decide) (by decide)
 | 3, _ => exact turns_of (k := 3) a3 (by decide) (by decide) (by decide)
 | 4, _ => exact turns_of (k := 4) a4 (by decide) (by decide) (by decide)
 | 5, _ => exact turns_of (k := 5) a5 (by decide) (by decide) (by decide)
 | 6, _ => exact turns_of (k := 6) a6 (by decide) (by decide) (by decide)
 | 7, _ => exact turns_of (k := 7) a7 (by decide) (by decide) (by decide)
 | 8, _ => exact turns_of (k := 8) a8 (by decide) (by decide) (by decide)
 | 9, _ => exact turns_of (k := 9) a9 (by decide) (by decide) (by decide)
 | 10, _ => exact turns_of (k := 10) a10 (by decide) (by decide) (by decide)
 | 11, _ => exact turns_of (k := 11) a11 (by decide) (by decide) (by decide)
 | 12, _ => exact turns_of (k := 12) a12 (by decide) (by decide) (by decide)
 | 13, _ => exact turns_of (k := 13) a13 (by decide) (by decide) (by decide)
 | 14, _ => exact turns_of (k := 14) a14 (by decide) (by decide) (by decide)
 | 15, _ => exact turns_of (k := 15) a15 (by decide) (by decide) (by decide)
 | k + 16, h => omega

theorem reach_bits (k : Nat) (hk : k ≤ 16) (x t : Nat) : ∃ n, n < 2 ^ k ∧ it n x % 2 ^ k = t % 2 ^ k := by
 induction k with
 | zero => exact ⟨0, by simp, by simp [Nat.mod_one]⟩
 | succ k ih =>
  obtain ⟨n, hn, e⟩ := ih (by omega)
  have hp : 2 ^ (k + 1) = 2 ^ k + 2 ^ k := by rw [Nat.pow_succ]; omega
  by_cases h : it n x % 2 ^ (k + 1) = t % 2 ^ (k + 1)
  ·exact ⟨n, by omega, h⟩
  ·refine ⟨n + 2 ^ k, by omega, ?_⟩
   rw [it_add, turns k (by omega)]
   have hpos : 0 < 2 ^ k := Nat.two_pow_pos k
   rw [hp] at h ⊢
   generalize it n x = y at *
   generalize 2 ^ k = q at *
   have hm : ∀ z, z % (q + q) = z % q ∨ z % (q + q) = z % q + q := fun z => by
    have h1 : z % (q + q) % q = z % q := Nat.mod_mod_of_dvd z ⟨2, by omega⟩
    have h2 := Nat.mod_lt z (show 0 < q + q by omega)
    have h3 := Nat.mod_lt z hpos
    by_cases hz : z % (q + q) < q
    ·rw [Nat.mod_eq_of_lt hz] at h1
     exact .inl h1
    ·right
     have h4 : (z % (q + q) - q) % q = z % q := by
      rw [← h1]
      have : z % (q + q) = (z % (q + q) - q) + q := by omega
      conv => rhs; rw [this]
      simp
     rw [Nat.mod_eq_of_lt (by omega)] at h4
     omega
   have h5 : (y + q) % (q + q) = (y % (q + q) + q) % (q + q) := by
    rw [Nat.add_mod y q, Nat.add_mod (y % (q + q)) q, Nat.mod_mod]
   have h3 := Nat.mod_lt y hpos
   rcases hm y with hy | hy <;> rcases hm t with ht | ht
   ·rw [hy, ht, e] at h; exact absurd rfl h
   ·rw [h5, hy, ht, Nat.mod_eq_of_lt (by omega), e]
   ·rw [h5, hy, ht, show y % q + q + q = y % q + (q + q) by omega, Nat.add_mod_right, Nat.mod_eq_of_lt (by omega), e]
   ·rw [hy, ht, e] at h; exact absurd rfl h

theorem reach (x t : Nat) (hx : x < 65536) (ht : t < 65536) : ∃ n, n < 65536 ∧ it n x = t := by
 obtain ⟨n, hn, e⟩ := reach_bits 16 (by omega) x t
 have h1 := it_lt hx n
 rw [show (2 : Nat) ^ 16 = 65536 by decide] at hn e
 rw [Nat.mod_eq_of_lt h1, Nat.mod_eq_of_lt ht] at e
 exact ⟨n, hn, e⟩

theorem reach_block (x : Nat) {b k : Nat} (hk : k < b) (hb : b ≤ 24) : ∃ n, n < 65536 ∧ it n (nx x) / 7 % b = k := by
 obtain ⟨n, hn, e⟩ := reach (nx x) (k * 7) (nx_lt x) (by omega)
 refine ⟨n, hn, ?_⟩
 rw [e, Nat.mul_div_cancel _ (by decide), Nat.mod_eq_of_lt hk]

def stepsTo (stop : Nat → Bool) : Nat → Nat → Nat
 | 0, _ => 0
 | F + 1, x => if stop (nx x) then 0 else stepsTo stop F (nx x) + 1

theorem stepsTo_le (stop : Nat → Bool) (F x : Nat) : stepsTo stop F x ≤ F := by
 induction F generalizing x with
 | zero => simp [stepsTo]
 | succ F ih =>
  simp only [stepsTo]
  split
  ·omega
  ·have := ih (nx x); omega

theorem stepsTo_succ (stop : Nat → Bool) (F x : Nat) : stepsTo stop (F + 1) x = if stop (nx x) then 0 else stepsTo stop F (nx x) + 1 := by rw [stepsTo]

theorem stepsTo_more {stop : Nat → Bool} {n : Nat} : ∀ {F x : Nat}, n < F → stop (it n (nx x)) = true → stepsTo stop (F + 1) x = stepsTo stop F x := by
 induction n with
 | zero =>
  intro F x hF h
  cases F with
  | zero => omega
  | succ F =>
   simp only [it] at h
   rw [stepsTo_succ stop (F + 1) x, stepsTo_succ stop F x, if_pos h, if_pos h]
 | succ n ih =>
  intro F x hF h
  cases F with
  | zero => omega
  | succ F =>
   rw [stepsTo_succ stop (F + 1) x, stepsTo_succ stop F x]
   by_cases hs : stop (nx x) = true
   ·rw [if_pos hs, if_pos hs]
   ·rw [it_succ] at h
    rw [if_neg hs, if_neg hs, ih (by omega) h]

def toStop (stop : Nat → Bool) (x : Nat) : Nat := stepsTo stop 65537 x

theorem toStop_le (stop : Nat → Bool) (x : Nat) : toStop stop x ≤ 65537 := stepsTo_le _ _ _

theorem toStop_next {stop : Nat → Bool} {x n : Nat} (hn : n < 65536) (hr : stop (it n (nx (nx x))) = true) (hs : stop (nx x) = false) : toStop stop (nx x) < toStop stop x := by
 have h1 : stepsTo stop (65536 + 1) (nx x) = stepsTo stop 65536 (nx x) := stepsTo_more hn hr
 have h2 : stepsTo stop (65536 + 1) x = stepsTo stop 65536 (nx x) + 1 := by
  rw [stepsTo_succ, hs]
  rfl
 show stepsTo stop (65536 + 1) (nx x) < stepsTo stop (65536 + 1) x
 omega

def blkOf (b x : Nat) : Nat := x / 7 % b

def newOne (b : Nat) (l : List Nat) (x : Nat) : Bool := !l.contains (blkOf b x)

theorem newOne_comes {b : Nat} (hb : b ≤ 24) {l : List Nat} {k : Nat} (hk : k < b) (hl : ¬ k ∈ l) (x : Nat) : ∃ n, n < 65536 ∧ newOne b l (it n (nx x)) = true := by
 obtain ⟨n, hn, e⟩ := reach_block x hk hb
 exact ⟨n, hn, by simp [newOne, blkOf, e, hl]⟩

theorem one_missing {b : Nat} : ∀ {l : List Nat}, l.length < b → ∃ k, k < b ∧ ¬ k ∈ l := by
 induction b with
 | zero => intro l h; omega
 | succ b ih =>
  intro l h
  by_cases hb : b ∈ l
  ·obtain ⟨k, hk, hn⟩ := ih (l := l.erase b) (by rw [List.length_erase_of_mem hb]; have := List.length_pos_of_mem hb; omega)
   refine ⟨k, by omega, fun hm => hn ?_⟩
   exact (List.mem_erase_of_ne (by omega)).2 hm
  ·exact ⟨b, by omega, hb⟩

theorem it_next (n x : Nat) : it (n + 1) x = nx (it n x) := by rw [it_add n 1, it_succ, it]

def coll (b x : Nat) : Nat → List Nat
 | 0 => []
 | n + 1 => if newOne b (coll b x n) (it (n + 1) x) = true then coll b x n ++ [blkOf b (it (n + 1) x)] else coll b x n

theorem coll_new {b x n : Nat} (h : newOne b (coll b x n) (nx (it n x)) = true) : coll b x (n + 1) = coll b x n ++ [blkOf b (nx (it n x))] := by
 rw [coll, it_next, if_pos h]

theorem coll_old {b x n : Nat} (h : newOne b (coll b x n) (nx (it n x)) = false) : coll b x (n + 1) = coll b x n := by
 rw [coll, it_next, if_neg (by simp [h])]

theorem coll_succ_prefix (b x n : Nat) : coll b x n <+: coll b x (n + 1) := by
 cases h : newOne b (coll b x n) (nx (it n x))
 ·rw [coll_old h]; exact List.prefix_refl _
 ·rw [coll_new h]; exact List.prefix_append _ _

theorem coll_prefix (b x n d : Nat) : coll b x n <+: coll b x (n + d) := by
 induction d with
 | zero => exact List.prefix_refl _
 | succ d ih => exact ih.trans (coll_succ_prefix b x (n + d))

theorem coll_eq {b x n m : Nat} (h : (coll b x n).length = (coll b x m).length) : coll b x n = coll b x m := by
 rcases Nat.le_total n m with hl | hl
 ·obtain ⟨d, rfl⟩ := Nat.exists_eq_add_of_le hl
  exact (coll_prefix b x n d).eq_of_length h
 ·obtain ⟨d, rfl⟩ := Nat.exists_eq_add_of_le hl
  exact ((coll_prefix b x m d).eq_of_length h.symm).symm

theorem coll_lt {b x : Nat} (hb : 0 < b) (n : Nat) : ∀ k ∈ coll b x n, k < b := by
 induction n with
 | zero => intro k hk; simp [coll] at hk
 | succ n ih =>
  cases h : newOne b (coll b x n) (nx (it n x))
  ·rw [coll_old h]; exact ih
  ·rw [coll_new h]
   intro k hk
   rcases List.mem_append.1 hk with hk | hk
   ·exact ih k hk
   ·rw [List.mem_singleton.1 hk]; exact Nat.mod_lt _ hb

theorem coll_more {b x : Nat} : ∀ (n N : Nat), newOne b (coll b x N) (it n (nx (it N x))) = true → ∃ M, (coll b x M).length = (coll b x N).length + 1 := by
 intro n
 induction n with
 | zero =>
  intro N h
  exact ⟨N + 1, by rw [coll_new (by simpa [it] using h)]; simp⟩
 | succ n ih =>
  intro N h
  cases hs : newOne b (coll b x N) (nx (it N x))
  ·have e := coll_old hs
   obtain ⟨M, hM⟩ := ih (N + 1) (by rw [e, it_next]; rw [it_succ] at h; exact h)
   exact ⟨M, by rw [hM, e]⟩
  ·exact ⟨N + 1, by rw [coll_new hs]; simp⟩

theorem coll_reach {b x : Nat} (hb : b ≤ 24) : ∀ m, m ≤ b → ∃ N, (coll b x N).length = m := by
 intro m
 induction m with
 | zero => intro _; exact ⟨0, rfl⟩
 | succ m ih =>
  intro hm
  obtain ⟨N, hN⟩ := ih (by omega)
  obtain ⟨k, hk, hn⟩ := one_missing (b := b) (l := coll b x N) (by omega)
  obtain ⟨n, _, h⟩ := newOne_comes hb hk hn (it N x)
  obtain ⟨M, hM⟩ := coll_more n N h
  exact ⟨M, by rw [hM, hN]⟩

noncomputable def upTo (b x m : Nat) : List Nat := open Classical in if h : ∃ n, (coll b x n).length = m then coll b x h.choose else []

theorem upTo_coll (b x n : Nat) : upTo b x (coll b x n).length = coll b x n := by
 have h : ∃ k, (coll b x k).length = (coll b x n).length := ⟨n, rfl⟩
 unfold upTo
 rw [dif_pos h]
 exact coll_eq h.choose_spec

def many (b x : Nat) : Nat := if x < 8192 then min 1 b else if x < 40960 then min 2 b else if x < 51882 then min 3 b else if x < 57344 then min 4 b else if x < 60621 then min 5 b else max (b / 2) 1

theorem many_le {b : Nat} (h : 1 ≤ b) (x : Nat) : many b x ≤ b := by unfold many; split <;> (try split) <;> (try split) <;> (try split) <;> (try split) <;> omega

def lim : List Nat := [8192, 40960, 51882, 57344, 60621]

theorem many_at {b x k : Nat} (hk : k < 5) (hlo : ∀ j, j < k → lim.getD j 0 ≤ x) (hx : x < lim.getD k 0) : many b x = min (k + 1) b := by
 match k, hk with
 | 0, _ => simp [lim] at hx; simp [many, hx]
 | 1, _ =>
  have h0 := hlo 0 (by decide)
  simp [lim] at hx h0
  simp [many, hx, show ¬ x < 8192 by omega]
 | 2, _ =>
  have h0 := hlo 1 (by decide)
  simp [lim] at hx h0
  simp [many, hx, show ¬ x < 8192 by omega, show ¬ x < 40960 by omega]
 | 3, _ =>
  have h0 := hlo 2 (by decide)
  simp [lim] at hx h0
  simp [many, hx, show ¬ x < 8192 by omega, show ¬ x < 40960 by omega, show ¬ x < 51882 by omega]
 | 4, _ =>
  have h0 := hlo 3 (by decide)
  simp [lim] at hx h0
  simp [many, hx, show ¬ x < 8192 by omega, show ¬ x < 40960 by omega, show ¬ x < 51882 by omega, show ¬ x < 57344 by omega]
 | k + 5, h => omega

theorem many_end {b x : Nat} (hlo : ∀ j, j < 5 → lim.getD j 0 ≤ x) : many b x = max (b / 2) 1 := by
 have h0 := hlo 4 (by decide)
 simp [lim] at h0
 simp [many, show ¬ x < 8192 by omega, show ¬ x < 40960 by omega, show ¬ x < 51882 by omega, show ¬ x < 57344 by omega, show ¬ x < 60621 by omega]

noncomputable def chosen (b i : Nat) : List Nat := if i < b then [i] else upTo b (nx i) (many b (nx i))

theorem chosen_low {b i : Nat} (h : i < b) : chosen b i = [i] := if_pos h

theorem chosen_high {b i n : Nat} (h : ¬ i < b) (hn : (coll b (nx i) n).length = many b (nx i)) : chosen b i = coll b (nx i) n := by
 rw [chosen, if_neg h, ← hn, upTo_coll]

theorem chosen_is {b i : Nat} (h : ¬ i < b) (h1 : 1 ≤ b) (hb : b ≤ 24) : ∃ n, chosen b i = coll b (nx i) n ∧ (coll b (nx i) n).length = many b (nx i) := by
 obtain ⟨n, hn⟩ := coll_reach (x := nx i) hb (many b (nx i)) (many_le h1 _)
 exact ⟨n, chosen_high h hn, hn⟩

theorem chosen_lt {b i : Nat} (h1 : 1 ≤ b) (hb : b ≤ 24) : ∀ k ∈ chosen b i, k < b := by
 by_cases h : i < b
 ·rw [chosen_low h]; intro k hk; rw [List.mem_singleton.1 hk]; exact h
 ·obtain ⟨n, e, _⟩ := chosen_is h h1 hb
  rw [e]
  exact coll_lt (by omega) n

noncomputable def toGo (b x0 m missing x : Nat) : Nat := missing * 65538 + toStop (newOne b (upTo b x0 (m - missing))) x

theorem toGo_new {b x0 m n : Nat} (hlt : (coll b x0 n).length < m) (x : Nat) : toGo b x0 m (m - ((coll b x0 n).length + 1)) x < toGo b x0 m (m - (coll b x0 n).length) (it n x0) := by
 unfold toGo
 have h1 := toStop_le (newOne b (upTo b x0 (m - (m - ((coll b x0 n).length + 1))))) x
 have h2 : m - (coll b x0 n).length = m - ((coll b x0 n).length + 1) + 1 := by omega
 rw [h2, Nat.succ_mul]
 omega

theorem toGo_old {b x0 m n : Nat} (hb : b ≤ 24) (hm : m ≤ b) (hlt : (coll b x0 n).length < m) (ho : newOne b (coll b x0 n) (nx (it n x0)) = false) :
  toGo b x0 m (m - (coll b x0 n).length) (nx (it n x0)) < toGo b x0 m (m - (coll b x0 n).length) (it n x0) := by
 unfold toGo
 rw [show m - (m - (coll b x0 n).length) = (coll b x0 n).length by omega, upTo_coll]
 obtain ⟨k, hk, hn⟩ := one_missing (b := b) (l := coll b x0 n) (by omega)
 obtain ⟨j, hj, h⟩ := newOne_comes hb hk hn (nx (it n x0))
 have := toStop_next hj h ho
 omega

def mask (l : List Nat) (j : Nat) : Bool := decide (j ∈ l)

theorem sumAt_congr {B B' : Nat → Nat → UInt8} {h : Nat → Bool} {n t : Nat} (e : ∀ j, j < n → B j t = B' j t) : sumAt B h n t = sumAt B' h n t := by
 induction n with
 | zero => rfl
 | succ n ih => rw [sumAt, sumAt, ih (fun j hj => e j (by omega)), e n (by omega)]

theorem getD_of {l : List UInt8} {t : Nat} (h : t < l.length) : l.getD t 0 = l[t] := by simp [List.getD, h]

noncomputable def symL (nb k : Nat) (c : List UInt8) (i : Nat) : List UInt8 := (List.range k).map fun t => sumAt (fun j t => (piece k j c).getD t 0) (mask (chosen nb i)) nb t

theorem symL_length (nb k : Nat) (c : List UInt8) (i : Nat) : (symL nb k c i).length = k := by simp [symL]

theorem piece_getD (k j : Nat) (c : List UInt8) (t : Nat) : (piece k j c).getD t 0 = if t < k then c.getD (j * k + t) 0 else 0 := by
 by_cases h : t < k
 ·rw [if_pos h, List.getD, piece_get c h]; rfl
 ·rw [if_neg h, List.getD, List.getElem?_eq_none (by rw [piece_length]; omega)]; rfl

end Go.Proofs.YtakkajjoeimkdaaGreatDoor

namespace Go.Proofs.YtakkajjoeimkdaaGreatDoor
open Go.RowKit
set_option linter.unusedVariables false
set_option linter.unusedSimpArgs false

def chkS (B K id : Int) (n : Nat) : Int := if chkP B K ≠ 0 then chkP B K else if id < 0 ∨ 9999 < id then 3 else if (n : Int) ≠ K then 4 else 0

theorem chkS_plan {B K id : Int} {n : Nat} (h : chkP B K ≠ 0) : chkS B K id n = chkP B K := if_pos h
theorem chkS_id {B K id : Int} {n : Nat} (h : chkP B K = 0) (hi : id < 0 ∨ 9999 < id) : chkS B K id n = 3 := by rw [chkS, if_neg (by simp [h]), if_pos hi]
theorem chkS_form {B K id : Int} {n : Nat} (h : chkP B K = 0) (hi : ¬ (id < 0 ∨ 9999 < id)) (hn : (n : Int) ≠ K) : chkS B K id n = 4 := by rw [chkS, if_neg (by simp [h]), if_neg hi, if_pos hn]
theorem chkS_ok {B K id : Int} {n : Nat} (h : chkP B K = 0) (hi : ¬ (id < 0 ∨ 9999 < id)) (hn : (n : Int) = K) : chkS B K id n = 0 := by rw [chkS, if_neg (by simp [h]), if_neg hi, if_neg (by simp [hn])]

def BoxS (w : World) (g : Nat) (id : Int) (d : Value) : Prop := w.cell? ⟨g, 0, none⟩ = some (.int .i64 id) ∧ w.cell? ⟨g, 1, none⟩ = some d

theorem BoxS.mk (w : World) (id : Int) (d : Value) (t : TypeId) : BoxS (w.alloc (.cells #[.int .i64 id, d] t)) w.heap.size id d := by
 have h := Lies.alloc_new w #[.int .i64 id, d] t
 exact ⟨h.at (k := 0) rfl, h.at (k := 1) rfl⟩

theorem BoxS.below {w w1 : World} {g : Nat} {id : Int} {d : Value} (h : BoxS w g id d) (hb : Below w.heap.size w w1) : BoxS w1 g id d := by
 have h1 := World.block_lt_of_cell? w _ h.1
 simp at h1
 exact ⟨by rw [(bcell hb).1 g 0 h1]; exact h.1, by rw [(bcell hb).1 g 1 h1]; exact h.2⟩

theorem boxes2 {w w1 : World} {B K id : Int} {d : Value} {t u : TypeId}
  (hb : Below ((w.alloc (.cells #[.int .i64 B, .int .i64 K] t)).alloc (.cells #[.int .i64 id, d] u)).heap.size ((w.alloc (.cells #[.int .i64 B, .int .i64 K] t)).alloc (.cells #[.int .i64 id, d] u)) w1) :
  w1.cell? ⟨w.heap.size, 0, none⟩ = some (.int .i64 B) ∧ w1.cell? ⟨w.heap.size, 1, none⟩ = some (.int .i64 K) ∧ w1.cell? ⟨w.heap.size + 1, 0, none⟩ = some (.int .i64 id) ∧ w1.cell? ⟨w.heap.size + 1, 1, none⟩ = some d := by
 have h1 := ((Boxed.mk w B K t).below ((Below.refl _ _).alloc (Nat.le_refl _) (.cells #[.int .i64 id, d] u))).below hb
 have h2 := (BoxS.mk (w.alloc (.cells #[.int .i64 B, .int .i64 K] t)) id d u).below hb
 have e : (w.alloc (.cells #[.int .i64 B, .int .i64 K] t)).heap.size = w.heap.size + 1 := by simp
 rw [e] at h2
 exact ⟨h1.1, h1.2, h2.1, h2.2⟩

theorem codeCheck_any (B K id : Int) (a : Option Addr) (n cap : Nat) (w : World) (hB : I64 B) (hK : I64 K) (hn : n ≤ maxLen) :
  Calls Tryz.prog 65 #[.agg #[.int .i64 B, .int .i64 K], .agg #[.int .i64 id, .slice a n cap]] w fun e w' => e = .returned (.int .i64 (chkS B K id n)) ∧ Below w.heap.size w w' := by
 unfold maxLen at hn
 by_cases hc : chkP B K = 0
 ·have HC := Shut.mk hc
  go_enter Tryz.func65, Tryz.ntmps65
  go_wp2_with fail
  refine (cutCheck_any B K _ hB hK).mono ?_
  rintro e w1 ⟨rfl, hb⟩
  obtain ⟨x0, x1, y0, y1⟩ := boxes2 hb
  have hb := boxBelow (boxBelow hb)
  rw [HC.out]
  by_cases h1 : 0 ≤ id ∧ id ≤ 9999
  ·have hi : ¬ (id < 0 ∨ 9999 < id) := by omega
   by_cases h2 : (n : Int) = K
   ·have h2' : ((n : Int) != K) = false := by simpa using h2
    have HA := Shut.mk (chkS_ok hc hi h2)
    obtain ⟨h3, h4⟩ := h1
    clear hi h2 hc
    go_wp2
    go_ret
    exact ⟨ret_int HA.out.symm, hb⟩
   ·have h2' : ((n : Int) != K) = true := by simpa using h2
    have HA := Shut.mk (chkS_form hc hi h2)
    obtain ⟨h3, h4⟩ := h1
    clear hi h2 hc
    go_wp2
    go_ret
    exact ⟨ret_int HA.out.symm, hb⟩
  ·have HA := Shut.mk (chkS_id (id := id) (n := n) hc (by omega))
   have h3 : id < 0 ∨ 9999 < id := by omega
   clear h1 hc
   rcases h3 with h3 | h3
   ·go_wp2
    go_ret
    exact ⟨ret_int HA.out.symm, hb⟩
   ·have h4 : 0 ≤ id := by omega
    go_wp2
    go_ret
    exact ⟨ret_int HA.out.symm, hb⟩
 ·have hc' : (chkP B K != 0) = true := by simpa using hc
  have HA := Shut.mk (chkS_plan (id := id) (n := n) hc)
  clear hc
  go_enter Tryz.func65, Tryz.ntmps65
  go_wp2_with fail
  refine (cutCheck_any B K _ hB hK).mono ?_
  rintro e w1 ⟨rfl, hb⟩
  have hb := boxBelow (boxBelow hb)
  go_wp2
  go_ret
  exact ⟨ret_int HA.out.symm, hb⟩

end Go.Proofs.YtakkajjoeimkdaaGreatDoor

namespace Go.Proofs.YtakkajjoeimkdaaGreatDoor
open Go.RowKit Go.Maps
set_option linter.unusedVariables false
set_option linter.unusedSimpArgs false

def restCode (u : List UInt8) (p n y : Int) (h : Hd) (id : Int) (dn cn : Nat) : Int :=
 if ¬ ((0 ≤ p ∧ p ≤ 3) ∧ (0 ≤ y ∧ y ≤ 9999) ∧ (0 ≤ n ∧ n ≤ 1000000)) then 3
 else
  let e1 := if hasB u 72 then hdCode h else 0
  let e2 := if e1 = 0 ∧ hasB u 83 then chkS h.B h.K id dn else e1
  if e2 = 0 ∧ hasB u 67 ∧ (cn : Int) ≠ h.B then 4 else e2

end Go.Proofs.YtakkajjoeimkdaaGreatDoor
