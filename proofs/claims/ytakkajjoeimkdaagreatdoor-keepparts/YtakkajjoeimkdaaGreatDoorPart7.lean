import Derived.Test.YtakkajjoeimkdaaGreatDoorPart5
import Derived.Test.YtakkajjoeimkdaaGreatDoorPart6
namespace Go.Proofs.YtakkajjoeimkdaaGreatDoor
open Go.RowKit
set_option linter.unusedVariables false
set_option linter.unusedSimpArgs false

structure Kp where
 h : Hd
 own : Bool
 c : List UInt8
 ss : List LSym
 sh : Int
 gv : Int
 tw : Int
 tr : Int
 tk : List (Int × Int)
 dl : Bool
 pg : Bool

structure Pl where
 me : Int
 kp : List Kp
 tm : Int
 sq : Int

def pl0 : Pl := ⟨0, [], 0, 0⟩

def symsFrom (B K : Int) (a : List LSym) : List LSym → Int
 | [] => 0
 | y :: l => if chkS B K y.1 y.2.length ≠ 0 then chkS B K y.1 y.2.length else if a.any (fun s => s.1 == y.1) then 6 else symsFrom B K (a ++ [y]) l

def tookFrom (a : List (Int × Int)) : List (Int × Int) → Int
 | [] => 0
 | t :: l => if ¬ ((0 ≤ t.1 ∧ t.1 ≤ 3) ∧ (1 ≤ t.2 ∧ t.2 ≤ 9999)) then 3 else if t ∈ a then 6 else tookFrom (a ++ [t]) l

def Kp.owned (me : Int) (k : Kp) : Bool := (k.own == (k.h.F == me)) && (k.own && (decide ((k.c.length : Int) = k.h.B) && decide (k.ss.length = 0)) || !k.own && decide (k.c.length = 0))

def Kp.done (k : Kp) : Bool := k.dl || k.pg

def Kp.shares (me : Int) (k : Kp) : Int :=
 if ¬ ((0 ≤ k.sh ∧ k.sh ≤ 64) ∧ (0 ≤ k.gv ∧ k.gv ≤ 64) ∧ (0 ≤ k.tw ∧ k.tw ≤ 3) ∧ (0 ≤ k.tr ∧ k.tr ≤ 9999)) then 3
 else if (k.gv = 0 ∧ k.tw ≠ 0) ∨ (k.gv ≠ 0 ∧ (k.tw = me ∨ k.tr = 0)) then 4 else 0

def Kp.doneOk (me : Int) (k : Kp) : Bool := !(k.dl && (!(k.h.T == me) || k.pg)) && (!k.done || (decide (k.ss.length = 0) && k.sh == 0 && k.gv == 0))

def Kp.code (me tm sq : Int) (k : Kp) : Int :=
 if hdCode k.h ≠ 0 then hdCode k.h
 else if k.h.L ≤ tm then 7
 else if ¬ k.owned me = true then 4
 else if 60 < k.ss.length ∨ 40 < k.tk.length then 2
 else if symsFrom k.h.B k.h.K [] k.ss ≠ 0 then symsFrom k.h.B k.h.K [] k.ss
 else if k.shares me ≠ 0 then k.shares me
 else if tookFrom [] k.tk ≠ 0 then tookFrom [] k.tk
 else if ¬ k.doneOk me = true ∨ (k.own = true ∧ sq ≤ k.h.Q) then 4 else 0

def Hd.ahead (a b : Hd) : Bool := decide (a.F < b.F) || (a.F == b.F && decide (a.Q < b.Q))

def behind : Option Hd → Hd → Bool
 | none, _ => true
 | some a, h => a.ahead h

def keptFrom (me tm sq : Int) (p : Option Hd) : List Kp → Int
 | [] => 0
 | k :: l => if k.code me tm sq ≠ 0 then k.code me tm sq else if ¬ behind p k.h = true then 6 else keptFrom me tm sq (some k.h) l

def Pl.code (p : Pl) : Int :=
 if ¬ ((0 ≤ p.me ∧ p.me ≤ 3) ∧ (0 ≤ p.tm ∧ p.tm ≤ 1000000) ∧ (0 ≤ p.sq ∧ p.sq ≤ 50)) then 3
 else if 12 < p.kp.length then 2 else keptFrom p.me p.tm p.sq none p.kp

def findL (l : List Kp) (f q : Int) : Option Nat := l.findIdx? (fun k => k.h.F == f && k.h.Q == q)

def findI (l : List Kp) (f q : Int) : Int := match findL l f q with
 | none => -1
 | some i => i

def kp0 (h : Hd) : Kp := ⟨h, false, [], [], 0, 0, 0, 0, [], false, false⟩

def placeOf (l : List Kp) (h : Hd) : Nat := (l.findIdx? (fun o => h.ahead o.h)).getD l.length

def insK (l : List Kp) (i : Nat) (k : Kp) : List Kp := l.take i ++ k :: l.drop i

def Kp.over (k : Kp) : Kp := { k with ss := [], sh := 0, gv := 0, tw := 0 }

def Kp.keep (k : Kp) (y : LSym) : Int × Kp :=
 if k.own = true then (5, k) else if k.done = true then (7, k) else if k.ss.any (fun s => s.1 == y.1) = true then (6, k) else if 60 ≤ k.ss.length then (2, k) else (0, { k with ss := k.ss ++ [y] })

noncomputable def Kp.deliver (me : Int) (k : Kp) (c : List UInt8) : Int × Kp :=
 if k.h.T ≠ me then (5, k) else if k.done = true then (7, k) else if decCode k.h.B k.h.K k.ss ≠ 0 then (decCode k.h.B k.h.K k.ss, k) else if decRes k.h.B k.h.K k.ss ≠ c then (9, k) else (0, { k with dl := true }.over)

def Kp.give (me : Int) (k : Kp) (p n y : Int) : Int × Kp :=
 if p = me then (5, k) else if k.gv ≠ 0 ∨ y ≠ k.tr + 1 then (7, k) else if k.sh < 2 ∨ n ≠ k.sh / 2 then (3, k) else (0, { k with sh := k.sh - n, gv := n, tw := p, tr := y })

def Kp.given (k : Kp) (y : Int) : Int × Kp := if k.gv = 0 ∨ y ≠ k.tr then (7, k) else (0, { k with gv := 0, tw := 0 })

def Kp.take (k : Kp) (p n y : Int) : Int × Kp :=
 if y = 0 ∨ n = 0 ∨ 64 < k.sh + n then (3, k) else if (p, y) ∈ k.tk then (6, k) else if 40 ≤ k.tk.length then (2, k) else (0, { k with tk := k.tk ++ [(p, y)], sh := k.sh + n })

noncomputable def Kp.does (me : Int) (k : Kp) (r : Rc) : Int × Kp :=
 if r.k = 2 then k.keep (r.id, r.d) else if r.k = 3 then k.deliver me r.c else if k.done = true then (7, k)
 else if r.k = 4 then k.give me r.p r.n r.y else if r.k = 5 then k.given r.y else if r.k = 6 then k.take r.p r.n r.y else (0, { k with pg := true }.over)

def Pl.send (p : Pl) (r : Rc) : Int × Pl :=
 if r.h.F ≠ p.me then (5, p) else if r.h.Q ≠ p.sq ∨ r.h.L ≤ p.tm then (7, p) else if ¬ (1 ≤ r.n ∧ r.n ≤ 64) then (3, p) else if 12 ≤ p.kp.length then (2, p)
 else (0, { p with kp := insK p.kp (placeOf p.kp r.h) { kp0 r.h with own := true, c := r.c, sh := r.n }, sq := p.sq + 1 })

def Pl.tick (p : Pl) (n : Int) : Int × Pl := if n ≤ p.tm then (7, p) else (0, { p with tm := n, kp := p.kp.filter fun k => !decide (k.h.L ≤ n) })

def Pl.bundle (p : Pl) (r : Rc) : Int × List Kp × Nat :=
 match findL p.kp r.h.F r.h.Q with
 | none => if r.k = 3 ∨ r.k = 4 ∨ r.k = 5 then (5, [], 0) else if r.h.L ≤ p.tm then (7, [], 0) else if r.h.F = p.me then (5, [], 0) else if 12 ≤ p.kp.length then (2, [], 0) else (0, insK p.kp (placeOf p.kp r.h) (kp0 r.h), placeOf p.kp r.h)
 | some i => if r.h.L ≤ p.tm then (7, [], 0) else if (p.kp.map Kp.h)[i]? ≠ some r.h then (4, [], 0) else (0, p.kp, i)

noncomputable def Pl.does (p : Pl) (r : Rc) : Int × Pl :=
 if r.k = 1 then p.send r else if r.k = 8 then p.tick r.n else if (p.bundle r).1 ≠ 0 then ((p.bundle r).1, p) else
  match (p.bundle r).2.1[(p.bundle r).2.2]? with
  | none => (0, p)
  | some k => ((k.does p.me r).1, { p with kp := (p.bundle r).2.1.set (p.bundle r).2.2 (k.does p.me r).2 })

noncomputable def Pl.nextCode (p : Pl) (r : Rc) : Int := if p.code ≠ 0 then p.code else if r.code ≠ 0 then r.code else (p.does r).1

noncomputable def Pl.next (p : Pl) (r : Rc) : Pl := if p.nextCode r = 0 then (p.does r).2 else pl0

theorem rc_facts {r : Rc} (h : r.code = 0) : (1 ≤ r.k ∧ r.k ≤ 8) ∧ ((0 ≤ r.p ∧ r.p ≤ 3) ∧ (0 ≤ r.y ∧ r.y ≤ 9999) ∧ (0 ≤ r.n ∧ r.n ≤ 1000000)) ∧ (r.k ≠ 8 → hdCode r.h = 0) ∧ (r.k = 2 → chkS r.h.B r.h.K r.id r.d.length = 0) ∧ (r.k = 1 ∨ r.k = 3 → (r.c.length : Int) = r.h.B) := by
 unfold Rc.code at h
 rw [← ownCode_rec] at h
 unfold ownCode at h
 split at h
 ·omega
 ·rename_i h1
  split at h
  ·omega
  ·split at h
   ·omega
   ·rename_i h3
    have h1' := Classical.not_not.1 h1
    have h3' := Classical.not_not.1 h3
    refine ⟨h1', h3', ?_⟩
    split at h
    ·rename_i h8
     exact ⟨fun e => absurd h8 e, fun e => by omega, fun e => by omega⟩
    ·rename_i h8
     split at h
     ·rename_i hh
      exact absurd h hh
     ·rename_i hh
      refine ⟨fun _ => Classical.not_not.1 hh, ?_, ?_⟩
      ·intro e
       rw [if_pos e] at h
       exact h
      ·intro e
       rw [if_neg (by omega)] at h
       split at h
       ·omega
       ·rename_i hc
        exact Classical.not_not.1 fun hn => hc ⟨e, hn⟩

theorem hd_fits {h : Hd} (e : hdCode h = 0) : h.fits ∧ h.F ≠ h.T ∧ chkP h.B h.K = 0 := by
 unfold hdCode at e
 split at e
 ·omega
 ·rename_i h1
  split at e
  ·omega
  ·rename_i h2
   exact ⟨Classical.not_not.1 h1, h2, e⟩

theorem symsFrom_append (B K : Int) : ∀ (l a m : List LSym), symsFrom B K a (l ++ m) = if symsFrom B K a l ≠ 0 then symsFrom B K a l else symsFrom B K (a ++ l) m
 | [], a, m => by simp [symsFrom]
 | y :: l, a, m => by
  rw [List.cons_append]
  by_cases h1 : chkS B K y.1 y.2.length ≠ 0
  ·simp only [symsFrom, if_pos h1]
  ·by_cases h2 : a.any (fun s => s.1 == y.1) = true
   ·simp only [symsFrom, if_neg h1, if_pos h2]
    rw [if_pos (by decide)]
   ·simp only [symsFrom, if_neg h1, if_neg h2]
    rw [symsFrom_append B K l (a ++ [y]) m, List.append_assoc]
    rfl

theorem tookFrom_append : ∀ (l a m : List (Int × Int)), tookFrom a (l ++ m) = if tookFrom a l ≠ 0 then tookFrom a l else tookFrom (a ++ l) m
 | [], a, m => by simp [tookFrom]
 | y :: l, a, m => by
  rw [List.cons_append]
  by_cases h1 : ¬ ((0 ≤ y.1 ∧ y.1 ≤ 3) ∧ (1 ≤ y.2 ∧ y.2 ≤ 9999))
  ·simp only [tookFrom, if_pos h1]
   rw [if_pos (by decide)]
  ·by_cases h2 : y ∈ a
   ·simp only [tookFrom, if_neg h1, if_pos h2]
    rw [if_pos (by decide)]
   ·simp only [tookFrom, if_neg h1, if_neg h2]
    rw [tookFrom_append l (a ++ [y]) m, List.append_assoc]
    rfl

theorem ahead_trans {a b c : Hd} (h1 : a.ahead b = true) (h2 : b.ahead c = true) : a.ahead c = true := by
 simp only [Hd.ahead, Bool.or_eq_true, Bool.and_eq_true, decide_eq_true_eq, beq_iff_eq] at *
 omega

def SortedK (l : List Kp) : Prop := l.Pairwise fun a b => a.h.ahead b.h = true

theorem kept_zero {me tm sq : Int} : ∀ (l : List Kp) (p : Option Hd), keptFrom me tm sq p l = 0 ↔ (∀ k ∈ l, k.code me tm sq = 0) ∧ (∀ a, p = some a → ∀ k ∈ l, a.ahead k.h = true) ∧ SortedK l
 | [], p => by simp [keptFrom, SortedK]
 | k :: l, p => by
  have ih := kept_zero (me := me) (tm := tm) (sq := sq) l (some k.h)
  rw [keptFrom]
  by_cases h1 : k.code me tm sq ≠ 0
  ·rw [if_pos h1]
   constructor
   ·intro h; exact absurd h h1
   ·intro h; exact absurd (h.1 k List.mem_cons_self) h1
  ·rw [if_neg h1]
   have h1' := Classical.not_not.1 h1
   by_cases h2 : ¬ behind p k.h = true
   ·rw [if_pos h2]
    constructor
    ·intro h; omega
    ·intro h
     cases p with
     | none => simp [behind] at h2
     | some a => exact absurd (h.2.1 a rfl k List.mem_cons_self) h2
   ·rw [if_neg h2, ih]
    have h2' : ∀ a, p = some a → a.ahead k.h = true := fun a e => by
     subst e
     exact Classical.not_not.1 h2
    constructor
    ·rintro ⟨g1, g2, g3⟩
     refine ⟨fun x hx => ?_, fun a e x hx => ?_, List.pairwise_cons.2 ⟨fun x hx => g2 _ rfl x hx, g3⟩⟩
     ·rcases List.mem_cons.1 hx with rfl | hx
      ·exact h1'
      ·exact g1 x hx
     ·rcases List.mem_cons.1 hx with rfl | hx
      ·exact h2' a e
      ·exact ahead_trans (h2' a e) (g2 _ rfl x hx)
    ·rintro ⟨g1, g2, g3⟩
     obtain ⟨g4, g5⟩ := List.pairwise_cons.1 g3
     exact ⟨fun x hx => g1 x (List.mem_cons_of_mem _ hx), fun a e x hx => by cases e; exact g4 x hx, g5⟩

structure PlOk (p : Pl) : Prop where
 me : 0 ≤ p.me ∧ p.me ≤ 3
 tm : 0 ≤ p.tm ∧ p.tm ≤ 1000000
 sq : 0 ≤ p.sq ∧ p.sq ≤ 50
 few : p.kp.length ≤ 12
 all : ∀ k ∈ p.kp, k.code p.me p.tm p.sq = 0
 sorted : SortedK p.kp

theorem code_zero {p : Pl} : p.code = 0 ↔ PlOk p := by
 unfold Pl.code
 constructor
 ·intro h
  split at h
  ·omega
  ·rename_i h1
   split at h
   ·omega
   ·rename_i h2
    have h1' := Classical.not_not.1 h1
    obtain ⟨g1, _, g3⟩ := (kept_zero _ _).1 h
    exact ⟨h1'.1, h1'.2.1, h1'.2.2, by omega, g1, g3⟩
 ·intro h
  rw [if_neg (fun hn => hn ⟨h.me, h.tm, h.sq⟩), if_neg (by have := h.few; omega)]
  exact (kept_zero _ _).2 ⟨h.all, fun a e => (by cases e), h.sorted⟩

structure KpOk (me tm sq : Int) (k : Kp) : Prop where
 hd : hdCode k.h = 0
 late : tm < k.h.L
 own : k.owned me = true
 few : k.ss.length ≤ 60 ∧ k.tk.length ≤ 40
 syms : symsFrom k.h.B k.h.K [] k.ss = 0
 shares : k.shares me = 0
 took : tookFrom [] k.tk = 0
 done : k.doneOk me = true
 seq : k.own = true → k.h.Q < sq

theorem kcode_zero {me tm sq : Int} {k : Kp} : k.code me tm sq = 0 ↔ KpOk me tm sq k := by
 unfold Kp.code
 constructor
 ·intro h
  split at h
  ·rename_i h1; exact absurd h h1
  ·rename_i h1
   split at h
   ·omega
   ·rename_i h2
    split at h
    ·omega
    ·rename_i h3
     split at h
     ·omega
     ·rename_i h4
      split at h
      ·rename_i h5; exact absurd h h5
      ·rename_i h5
       split at h
       ·rename_i h6; exact absurd h h6
       ·rename_i h6
        split at h
        ·rename_i h7; exact absurd h h7
        ·rename_i h7
         split at h
         ·omega
         ·rename_i h8
          exact ⟨Classical.not_not.1 h1, by omega, Classical.not_not.1 h3, by omega, Classical.not_not.1 h5, Classical.not_not.1 h6, Classical.not_not.1 h7, Classical.not_not.1 fun e => h8 (Or.inl e), fun e => by
           rcases Int.lt_or_le k.h.Q sq with g | g
           ·exact g
           ·exact absurd (Or.inr ⟨e, g⟩) h8⟩
 ·intro h
  obtain ⟨h1, h2, h3, h4, h5, h6, h7, h8, h9⟩ := h
  rw [if_neg (by omega), if_neg (by omega), if_neg (by simp [h3]), if_neg (by omega), if_neg (by omega), if_neg (by omega), if_neg (by omega), if_neg]
  rintro (e | ⟨e1, e2⟩)
  ·exact e h8
  ·have := h9 e1; omega

section
variable {me tm sq : Int} {k : Kp}

theorem not_done {k : Kp} (h : ¬ k.done = true) : k.dl = false ∧ k.pg = false := by
 simp only [Kp.done, Bool.or_eq_true, not_or] at h
 exact ⟨by simpa using h.1, by simpa using h.2⟩

theorem doneOk_not {k : Kp} (h : k.dl = false ∧ k.pg = false) : k.doneOk me = true := by
 simp [Kp.doneOk, Kp.done, h.1, h.2]

theorem shares_zero {k : Kp} : k.shares me = 0 ↔ ((0 ≤ k.sh ∧ k.sh ≤ 64) ∧ (0 ≤ k.gv ∧ k.gv ≤ 64) ∧ (0 ≤ k.tw ∧ k.tw ≤ 3) ∧ (0 ≤ k.tr ∧ k.tr ≤ 9999)) ∧ (k.gv = 0 → k.tw = 0) ∧ (k.gv ≠ 0 → k.tw ≠ me ∧ k.tr ≠ 0) := by
 unfold Kp.shares
 by_cases h1 : (0 ≤ k.sh ∧ k.sh ≤ 64) ∧ (0 ≤ k.gv ∧ k.gv ≤ 64) ∧ (0 ≤ k.tw ∧ k.tw ≤ 3) ∧ (0 ≤ k.tr ∧ k.tr ≤ 9999)
 ·rw [if_neg (fun h => h h1)]
  by_cases h2 : (k.gv = 0 ∧ k.tw ≠ 0) ∨ (k.gv ≠ 0 ∧ (k.tw = me ∨ k.tr = 0))
  ·rw [if_pos h2]
   constructor
   ·intro h; omega
   ·intro h; omega
  ·rw [if_neg h2]
   constructor
   ·intro h; exact ⟨h1, by omega, by omega⟩
   ·intro h; rfl
 ·rw [if_pos h1]
  constructor
  ·intro h; omega
  ·intro h; exact absurd h.1 h1

theorem over_ok (h : KpOk me tm sq k) (hd : k.done = false) (d g : Bool) (hg : d = true → k.h.T = me ∧ g = false) : KpOk me tm sq ({ k with dl := d, pg := g } : Kp).over := by
 obtain ⟨h1, h2, h3, h4, h5, h6, h7, h8, h9⟩ := h
 refine ⟨h1, h2, ?_, ⟨Nat.zero_le _, h4.2⟩, rfl, ?_, h7, ?_, h9⟩
 ·simp only [Kp.owned, Kp.over, Bool.and_eq_true] at h3 ⊢
  refine ⟨h3.1, ?_⟩
  have := h3.2
  cases e : k.own
  ·rw [e] at this; simpa using this
  ·rw [e] at this
   simp only [Bool.true_and, Bool.not_true, Bool.false_and, Bool.or_false, Bool.and_eq_true] at this ⊢
   exact ⟨this.1, by simp⟩
 ·have := shares_zero.1 h6
  exact shares_zero.2 ⟨⟨(show (0:Int) ≤ 0 ∧ (0:Int) ≤ 64 by decide), (show (0:Int) ≤ 0 ∧ (0:Int) ≤ 64 by decide), (show (0:Int) ≤ 0 ∧ (0:Int) ≤ 3 by decide), this.1.2.2.2⟩, fun _ => rfl, fun h => absurd rfl h⟩
 ·simp only [Kp.doneOk, Kp.over, Kp.done, List.length_nil]
  cases d
  ·simp
  ·obtain ⟨g1, g2⟩ := hg rfl
   simp [g1, g2]

theorem keep_ok (h : KpOk me tm sq k) {y : LSym} (hy : chkS k.h.B k.h.K y.1 y.2.length = 0) (h0 : (k.keep y).1 = 0) : KpOk me tm sq (k.keep y).2 ∧ (k.keep y).2.h = k.h ∧ (k.keep y).2.sh = k.sh ∧ (k.keep y).2.dl = k.dl := by
 unfold Kp.keep at h0 ⊢
 split at h0
 ·omega
 ·rename_i g1
  rw [if_neg g1]
  split at h0
  ·omega
  ·rename_i g2
   rw [if_neg g2]
   split at h0
   ·omega
   ·rename_i g3
    rw [if_neg g3]
    split at h0
    ·omega
    ·rename_i g4
     rw [if_neg g4]
     obtain ⟨h1, h2, h3, h4, h5, h6, h7, h8, h9⟩ := h
     refine ⟨⟨h1, h2, ?_, ⟨by simp; omega, h4.2⟩, ?_, h6, h7, doneOk_not (not_done g2), h9⟩, rfl, rfl, rfl⟩
     ·have e1 : k.own = false := by simpa using g1
      simp only [Kp.owned, e1, Bool.and_eq_true] at h3 ⊢
      simpa using h3
     ·rw [symsFrom_append, if_neg (by rw [h5]; simp), List.nil_append, symsFrom, if_neg (by rw [hy]; simp), if_neg g3, symsFrom]

theorem deliver_ok (h : KpOk me tm sq k) {c : List UInt8} (h0 : (k.deliver me c).1 = 0) : KpOk me tm sq (k.deliver me c).2 ∧ (k.deliver me c).2.h = k.h ∧ (k.deliver me c).2.sh = 0 ∧ (k.deliver me c).2.dl = true ∧ k.dl = false ∧ k.h.T = me := by
 unfold Kp.deliver at h0 ⊢
 split at h0
 ·omega
 ·rename_i g1
  rw [if_neg g1]
  split at h0
  ·omega
  ·rename_i g2
   rw [if_neg g2]
   split at h0
   ·rename_i g3; exact absurd h0 g3
   ·rename_i g3
    rw [if_neg g3]
    split at h0
    ·omega
    ·rename_i g4
     rw [if_neg g4]
     obtain ⟨e1, e2⟩ := not_done g2
     refine ⟨?_, rfl, rfl, rfl, e1, Classical.not_not.1 g1⟩
     have := over_ok h (by simpa using g2) true k.pg (fun _ => ⟨Classical.not_not.1 g1, e2⟩)
     exact this

theorem give_ok (h : KpOk me tm sq k) {p n y : Int} (hp : 0 ≤ p ∧ p ≤ 3) (hy : 0 ≤ y ∧ y ≤ 9999) (hd : k.done = false) (h0 : (k.give me p n y).1 = 0) : KpOk me tm sq (k.give me p n y).2 ∧ (k.give me p n y).2.h = k.h ∧ (k.give me p n y).2.sh = k.sh - n ∧ (k.give me p n y).2.gv = n ∧ (k.give me p n y).2.dl = k.dl := by
 unfold Kp.give at h0 ⊢
 split at h0
 ·omega
 ·rename_i g1
  rw [if_neg g1]
  split at h0
  ·omega
  ·rename_i g2
   rw [if_neg g2]
   split at h0
   ·omega
   ·rename_i g3
    rw [if_neg g3]
    obtain ⟨h1, h2, h3, h4, h5, h6, h7, h8, h9⟩ := h
    have hs := shares_zero.1 h6
    have e := not_done (by simpa using hd)
    refine ⟨⟨h1, h2, h3, h4, h5, shares_zero.2 ?_, h7, doneOk_not e, h9⟩, rfl, rfl, rfl, rfl⟩
    simp only
    omega

theorem given_ok (h : KpOk me tm sq k) {y : Int} (hd : k.done = false) (h0 : (k.given y).1 = 0) : KpOk me tm sq (k.given y).2 ∧ (k.given y).2.h = k.h ∧ (k.given y).2.sh = k.sh ∧ (k.given y).2.dl = k.dl := by
 unfold Kp.given at h0 ⊢
 split at h0
 ·omega
 ·rename_i g2
  rw [if_neg g2]
  obtain ⟨h1, h2, h3, h4, h5, h6, h7, h8, h9⟩ := h
  have hs := shares_zero.1 h6
  have e := not_done (by simpa using hd)
  refine ⟨⟨h1, h2, h3, h4, h5, shares_zero.2 ⟨⟨hs.1.1, (show (0:Int) ≤ 0 ∧ (0:Int) ≤ 64 by decide), (show (0:Int) ≤ 0 ∧ (0:Int) ≤ 3 by decide), hs.1.2.2.2⟩, fun _ => rfl, fun h => absurd rfl h⟩, h7, doneOk_not e, h9⟩, rfl, rfl, rfl⟩

theorem take_ok (h : KpOk me tm sq k) {p n y : Int} (hp : 0 ≤ p ∧ p ≤ 3) (hy : 0 ≤ y ∧ y ≤ 9999) (hn : 0 ≤ n) (hd : k.done = false) (h0 : (k.take p n y).1 = 0) : KpOk me tm sq (k.take p n y).2 ∧ (k.take p n y).2.h = k.h ∧ (k.take p n y).2.sh = k.sh + n ∧ (k.take p n y).2.dl = k.dl := by
 unfold Kp.take at h0 ⊢
 split at h0
 ·omega
 ·rename_i g1
  rw [if_neg g1]
  split at h0
  ·omega
  ·rename_i g2
   rw [if_neg g2]
   split at h0
   ·omega
   ·rename_i g3
    rw [if_neg g3]
    obtain ⟨h1, h2, h3, h4, h5, h6, h7, h8, h9⟩ := h
    have hs := shares_zero.1 h6
    have e := not_done (by simpa using hd)
    refine ⟨⟨h1, h2, h3, ⟨h4.1, by simp; omega⟩, h5, shares_zero.2 ?_, ?_, doneOk_not e, h9⟩, rfl, rfl, rfl⟩
    ·simp only
     omega
    ·rw [tookFrom_append, if_neg (by rw [h7]; simp), List.nil_append, tookFrom, if_neg (fun hh => hh ⟨hp, by simp only; omega⟩), if_neg g2, tookFrom]

end

structure DoesOk (me tm sq : Int) (k : Kp) (r : Rc) (q : Kp) : Prop where
 ok : KpOk me tm sq q
 hd : q.h = k.h
 sh : q.sh = if r.k = 6 then k.sh + r.n else if r.k = 4 then k.sh - r.n else if r.k = 3 ∨ r.k = 7 then 0 else k.sh
 gv : r.k = 4 → q.gv = r.n
 dl : q.dl = (k.dl || decide (r.k = 3))
 was : r.k = 3 → k.dl = false ∧ k.h.T = me

theorem kdoes_ok {me tm sq : Int} {k : Kp} {r : Rc} (h : KpOk me tm sq k) (hr : r.code = 0) (hh : k.h = r.h) (hk1 : r.k ≠ 1) (hk8 : r.k ≠ 8) (h0 : (k.does me r).1 = 0) : DoesOk me tm sq k r (k.does me r).2 := by
 obtain ⟨fk, ⟨fp, fy, fn⟩, fh, fs, fc⟩ := rc_facts hr
 unfold Kp.does at h0 ⊢
 by_cases k2 : r.k = 2
 ·rw [if_pos k2] at h0 ⊢
  obtain ⟨a1, a2, a3, a4⟩ := keep_ok h (by rw [hh]; exact fs k2) h0
  exact ⟨a1, a2, by rw [a3, if_neg (by omega), if_neg (by omega), if_neg (by omega)], fun e => by omega, by rw [a4]; simp [k2], fun e => by omega⟩
 ·rw [if_neg k2] at h0 ⊢
  by_cases k3 : r.k = 3
  ·rw [if_pos k3] at h0 ⊢
   obtain ⟨a1, a2, a3, a4, a5, a6⟩ := deliver_ok h h0
   exact ⟨a1, a2, by rw [a3, if_neg (by omega), if_neg (by omega), if_pos (by omega)], fun e => by omega, by rw [a4]; simp [k3], fun e => ⟨a5, a6⟩⟩
  ·rw [if_neg k3] at h0 ⊢
   by_cases hd : k.done = true
   ·rw [if_pos hd] at h0; simp at h0
   ·rw [if_neg hd] at h0 ⊢
    have hd' : k.done = false := by simpa using hd
    by_cases k4 : r.k = 4
    ·rw [if_pos k4] at h0 ⊢
     obtain ⟨a1, a2, a3, a4, a5⟩ := give_ok h fp fy hd' h0
     exact ⟨a1, a2, by rw [a3, if_neg (by omega), if_pos (by omega)], fun e => a4, by rw [a5]; simp [k3], fun e => by omega⟩
    ·rw [if_neg k4] at h0 ⊢
     by_cases k5 : r.k = 5
     ·rw [if_pos k5] at h0 ⊢
      obtain ⟨a1, a2, a3, a4⟩ := given_ok h hd' h0
      exact ⟨a1, a2, by rw [a3, if_neg (by omega), if_neg (by omega), if_neg (by omega)], fun e => by omega, by rw [a4]; simp [k3], fun e => by omega⟩
     ·rw [if_neg k5] at h0 ⊢
      by_cases k6 : r.k = 6
      ·rw [if_pos k6] at h0 ⊢
       obtain ⟨a1, a2, a3, a4⟩ := take_ok h fp fy fn.1 hd' h0
       exact ⟨a1, a2, by rw [a3, if_pos k6], fun e => by omega, by rw [a4]; simp [k3], fun e => by omega⟩
      ·rw [if_neg k6] at h0 ⊢
       have e := not_done hd
       have k7 : r.k = 7 := by omega
       refine ⟨?_, rfl, ?_, fun e => by omega, ?_, fun e => by omega⟩
       ·have := over_ok h hd' k.dl true (fun e' => by rw [e.1] at e'; cases e')
        exact this
       ·rw [if_neg (by omega), if_neg (by omega), if_pos (by omega)]; rfl
       ·simp [Kp.over, k3]

def Hd.key (h : Hd) : Int × Int := (h.F, h.Q)

theorem key_iff {a b : Hd} : a.key = b.key ↔ a.F = b.F ∧ a.Q = b.Q := by simp [Hd.key]

theorem ahead_or {a b : Hd} (h : a.key ≠ b.key) : a.ahead b = true ∨ b.ahead a = true := by
 have h' : ¬ (a.F = b.F ∧ a.Q = b.Q) := fun e => h (key_iff.2 e)
 simp only [Hd.ahead, Bool.or_eq_true, Bool.and_eq_true, decide_eq_true_eq, beq_iff_eq]
 omega

theorem ahead_key {a b : Hd} (h : a.ahead b = true) : a.key ≠ b.key := by
 intro e
 have := key_iff.1 e
 simp only [Hd.ahead, Bool.or_eq_true, Bool.and_eq_true, decide_eq_true_eq, beq_iff_eq] at h
 omega

theorem findL_none {l : List Kp} {f q : Int} : findL l f q = none ↔ ∀ k ∈ l, k.h.key ≠ (f, q) := by
 unfold findL
 rw [List.findIdx?_eq_none_iff]
 constructor
 ·intro h k hk e
  have := h k hk
  have e2 := key_iff (b := ⟨f, q, 0, 0, 0, 0⟩).1 e
  simp [e2.1, e2.2] at this
 ·intro h k hk
  have := h k hk
  cases e : (k.h.F == f && k.h.Q == q)
  ·rfl
  ·simp only [Bool.and_eq_true, beq_iff_eq] at e
   exact absurd (show k.h.key = (f, q) by simp [Hd.key, e.1, e.2]) this

theorem findL_some {l : List Kp} {f q : Int} {i : Nat} (h : findL l f q = some i) : ∃ hi : i < l.length, l[i].h.key = (f, q) := by
 unfold findL at h
 rw [List.findIdx?_eq_some_iff_getElem] at h
 obtain ⟨hi, h1, _⟩ := h
 simp only [Bool.and_eq_true, beq_iff_eq] at h1
 exact ⟨hi, by simp [Hd.key, h1.1, h1.2]⟩

theorem sorted_inj {l : List Kp} (hs : SortedK l) : ∀ {i j : Nat} (hi : i < l.length) (hj : j < l.length), l[i].h.key = l[j].h.key → i = j := by
 intro i j hi hj e
 rcases Nat.lt_trichotomy i j with h | h | h
 ·exact absurd e (ahead_key (List.pairwise_iff_getElem.1 hs i j hi hj h))
 ·exact h
 ·exact absurd e.symm (ahead_key (List.pairwise_iff_getElem.1 hs j i hj hi h))

theorem placeOf_le (l : List Kp) (h : Hd) : placeOf l h ≤ l.length := by
 unfold placeOf
 cases e : l.findIdx? (fun o => h.ahead o.h) with
 | none => exact Nat.le_refl _
 | some i =>
  rw [List.findIdx?_eq_some_iff_getElem] at e
  obtain ⟨hi, _⟩ := e
  exact Nat.le_of_lt hi

theorem insK_length (l : List Kp) (i : Nat) (k : Kp) : (insK l i k).length = l.length + 1 := by
 unfold insK
 rw [List.length_append, List.length_cons, List.length_take, List.length_drop]
 omega

theorem insK_mem {l : List Kp} {i : Nat} {k x : Kp} : x ∈ insK l i k ↔ x = k ∨ x ∈ l := by
 unfold insK
 rw [List.mem_append, List.mem_cons]
 have : x ∈ l ↔ x ∈ l.take i ∨ x ∈ l.drop i := by rw [← List.mem_append, List.take_append_drop]
 rw [this]
 constructor
 ·rintro (h | h | h)
  ·exact Or.inr (Or.inl h)
  ·exact Or.inl h
  ·exact Or.inr (Or.inr h)
 ·rintro (h | h | h)
  ·exact Or.inr (Or.inl h)
  ·exact Or.inl h
  ·exact Or.inr (Or.inr h)

theorem insK_at {l : List Kp} {i : Nat} (k : Kp) (hi : i ≤ l.length) : (insK l i k)[i]? = some k := by
 unfold insK
 rw [List.getElem?_append_right (by rw [List.length_take]; omega), List.length_take, show i - min i l.length = 0 by omega]
 rfl

theorem ins_sorted {l : List Kp} {h : Hd} {k : Kp} (hs : SortedK l) (hn : findL l h.F h.Q = none) (hk : k.h = h) : SortedK (insK l (placeOf l h) k) := by
 have hne : ∀ x ∈ l, x.h.key ≠ h.key := findL_none.1 hn
 have hlt : ∀ j (hj : j < l.length), j < placeOf l h → l[j].h.ahead h = true := by
  intro j hj hjp
  have hf : ¬ h.ahead l[j].h = true := by
   unfold placeOf at hjp
   cases e : l.findIdx? (fun o => h.ahead o.h) with
   | none =>
    rw [List.findIdx?_eq_none_iff] at e
    simpa using e l[j] (List.getElem_mem hj)
   | some i =>
    rw [e] at hjp
    rw [List.findIdx?_eq_some_iff_getElem] at e
    obtain ⟨hi, _, h2⟩ := e
    exact h2 j hjp
  rcases ahead_or (hne l[j] (List.getElem_mem hj)) with g | g
  ·exact g
  ·exact absurd g hf
 have hge : ∀ j (hj : j < l.length), placeOf l h ≤ j → h.ahead l[j].h = true := by
  intro j hj hjp
  unfold placeOf at hjp
  cases e : l.findIdx? (fun o => h.ahead o.h) with
  | none =>
   rw [e] at hjp
   simp at hjp
   omega
  | some i =>
   rw [e] at hjp
   simp only [Option.getD_some] at hjp
   rw [List.findIdx?_eq_some_iff_getElem] at e
   obtain ⟨hi, h1, _⟩ := e
   rcases Nat.lt_or_eq_of_le hjp with g | g
   ·exact ahead_trans h1 (List.pairwise_iff_getElem.1 hs i j hi hj g)
   ·subst g; exact h1
 generalize placeOf l h = i at *
 unfold SortedK insK
 rw [List.pairwise_append]
 refine ⟨hs.sublist (List.take_sublist _ _), List.pairwise_cons.2 ⟨fun x hx => ?_, hs.sublist (List.drop_sublist _ _)⟩, fun a ha b hb => ?_⟩
 ·obtain ⟨j, hj, rfl⟩ := List.getElem_of_mem hx
  rw [List.getElem_drop, hk]
  exact hge _ _ (by omega)
 ·obtain ⟨j, hj, rfl⟩ := List.getElem_of_mem ha
  rw [List.getElem_take]
  have hj' : j < i ∧ j < l.length := by rw [List.length_take] at hj; omega
  have h1 := hlt j hj'.2 hj'.1
  rcases List.mem_cons.1 hb with rfl | hb
  ·rw [hk]; exact h1
  ·obtain ⟨t, ht, rfl⟩ := List.getElem_of_mem hb
   rw [List.getElem_drop]
   exact ahead_trans h1 (hge _ _ (by omega))

theorem set_sorted {l : List Kp} {i : Nat} {k : Kp} (hs : SortedK l) (hi : i < l.length) (hk : k.h = l[i].h) : SortedK (l.set i k) := by
 unfold SortedK at *
 rw [List.pairwise_iff_getElem] at *
 intro a b ha hb hab
 have e : ∀ j (hj : j < (l.set i k).length), ((l.set i k)[j]).h = (l[j]'(by simpa using hj)).h := by
  intro j hj
  rw [List.getElem_set]
  split
  ·rename_i e; subst e; exact hk
  ·rfl
 rw [e a ha, e b hb]
 exact hs a b (by simpa using ha) (by simpa using hb) hab

theorem kp0_ok {me tm sq : Int} {h : Hd} (hh : hdCode h = 0) (hl : tm < h.L) (hf : h.F ≠ me) : KpOk me tm sq (kp0 h) :=
 ⟨hh, hl, by simp [Kp.owned, kp0, hf], ⟨Nat.zero_le _, Nat.zero_le _⟩, rfl, rfl, rfl, rfl, fun e => by cases e⟩

theorem later_ok {me tm tm' sq sq' : Int} {k : Kp} (h : KpOk me tm sq k) (ht : tm' < k.h.L) (hs : sq ≤ sq') : KpOk me tm' sq' k :=
 ⟨h.hd, ht, h.own, h.few, h.syms, h.shares, h.took, h.done, fun e => by have := h.seq e; omega⟩

theorem PlOk.bun {p : Pl} (h : PlOk p) {k : Kp} (hk : k ∈ p.kp) : KpOk p.me p.tm p.sq k := kcode_zero.1 (h.all k hk)

structure Made (p : Pl) (r : Rc) (q : Pl) (z : Kp) : Prop where
 mem : z ∈ q.kp
 hd : z.h = r.h
 old : ∀ y ∈ q.kp, y = z ∨ (y ∈ p.kp ∧ y.h.key ≠ r.h.key)
 stay : ∀ y ∈ p.kp, y.h.key ≠ r.h.key → y ∈ q.kp
 late : p.tm < r.h.L
 tm : q.tm = p.tm
 how : (r.k = 1 ∧ findL p.kp r.h.F r.h.Q = none ∧ z.sh = r.n ∧ z.dl = false) ∨ (r.k ≠ 1 ∧ ∃ k, ((k ∈ p.kp ∧ k.h = r.h) ∨ (findL p.kp r.h.F r.h.Q = none ∧ k = kp0 r.h ∧ r.k ≠ 3)) ∧ DoesOk p.me p.tm q.sq k r z)

theorem send_ok {p : Pl} {r : Rc} (hp : PlOk p) (hr : r.code = 0) (hk : r.k = 1) (h0 : (p.send r).1 = 0) : PlOk (p.send r).2 ∧ (p.send r).2.me = p.me ∧ p.sq ≤ (p.send r).2.sq ∧ ∃ z, Made p r (p.send r).2 z := by
 obtain ⟨fk, ⟨fp, fy, fn⟩, fh, fs, fc⟩ := rc_facts hr
 obtain ⟨hf1, hf2, hf3⟩ := hd_fits (fh (by omega))
 unfold Pl.send at h0 ⊢
 split at h0
 ·omega
 ·rename_i g1
  rw [if_neg g1]
  split at h0
  ·omega
  ·rename_i g2
   rw [if_neg g2]
   split at h0
   ·omega
   ·rename_i g3
    rw [if_neg g3]
    split at h0
    ·omega
    ·rename_i g4
     rw [if_neg g4]
     have g1' := Classical.not_not.1 g1
     have g3' := Classical.not_not.1 g3
     have hnone : findL p.kp r.h.F r.h.Q = none := by
      cases e : findL p.kp r.h.F r.h.Q with
      | none => rfl
      | some i =>
       exfalso
       obtain ⟨hi, he⟩ := findL_some e
       have hb := hp.bun (List.getElem_mem hi)
       have he' : p.kp[i].h.F = r.h.F ∧ p.kp[i].h.Q = r.h.Q := key_iff.1 he
       have ho := hb.own
       simp only [Kp.owned, Bool.and_eq_true, beq_iff_eq] at ho
       have h1 : p.kp[i].own = true := by rw [ho.1, he'.1, g1']; simp
       have := hb.seq h1
       omega
     have hz : KpOk p.me p.tm (p.sq + 1) ({ kp0 r.h with own := true, c := r.c, sh := r.n } : Kp) := by
      refine ⟨fh (by omega), ?_, ?_, ⟨Nat.zero_le _, Nat.zero_le _⟩, rfl, ?_, rfl, rfl, ?_⟩
      ·show p.tm < r.h.L; omega
      ·simp only [Kp.owned, kp0, Bool.and_eq_true]
       have := fc (Or.inl hk)
       simp [g1', this]
      ·refine shares_zero.2 ⟨⟨?_, (show (0:Int) ≤ 0 ∧ (0:Int) ≤ 64 by decide), (show (0:Int) ≤ 0 ∧ (0:Int) ≤ 3 by decide), (show (0:Int) ≤ 0 ∧ (0:Int) ≤ 9999 by decide)⟩, fun _ => rfl, fun h => absurd rfl h⟩
       show 0 ≤ r.n ∧ r.n ≤ 64
       omega
      ·intro _; show r.h.Q < p.sq + 1; omega
     have hq49 := hf1.2.2.1
     refine ⟨⟨hp.me, hp.tm, ?_, ?_, ?_, ins_sorted hp.sorted hnone rfl⟩, rfl, ?_, ({ kp0 r.h with own := true, c := r.c, sh := r.n } : Kp), ?_, rfl, ?_, ?_, ?_, rfl, Or.inl ⟨hk, hnone, rfl, rfl⟩⟩
     ·have := hp.sq; show 0 ≤ p.sq + 1 ∧ p.sq + 1 ≤ 50; omega
     ·show (insK _ _ _).length ≤ 12; rw [insK_length]; omega
     ·intro x hx
      rcases insK_mem.1 hx with rfl | hx
      ·exact kcode_zero.2 hz
      ·exact kcode_zero.2 (later_ok (hp.bun hx) (hp.bun hx).late (show p.sq ≤ p.sq + 1 by omega))
     ·show p.sq ≤ p.sq + 1; omega
     ·exact insK_mem.2 (Or.inl rfl)
     ·intro y hy
      rcases insK_mem.1 hy with h | h
      ·exact Or.inl h
      ·exact Or.inr ⟨h, findL_none.1 hnone y h⟩
     ·intro y hy _
      exact insK_mem.2 (Or.inr hy)
     ·omega

theorem tick_ok {p : Pl} {n : Int} (hp : PlOk p) (hn : n ≤ 1000000) (h0 : (p.tick n).1 = 0) : PlOk (p.tick n).2 ∧ (p.tick n).2.me = p.me ∧ (p.tick n).2.sq = p.sq ∧ (p.tick n).2.tm = n ∧ p.tm < n ∧ ∀ y, y ∈ (p.tick n).2.kp ↔ y ∈ p.kp ∧ n < y.h.L := by
 unfold Pl.tick at h0 ⊢
 split at h0
 ·omega
 ·rename_i g1
  rw [if_neg g1]
  have hm : ∀ y, y ∈ (p.kp.filter fun k => !decide (k.h.L ≤ n)) ↔ y ∈ p.kp ∧ n < y.h.L := by
   intro y
   rw [List.mem_filter]
   simp
  refine ⟨⟨hp.me, ?_, hp.sq, ?_, ?_, hp.sorted.sublist List.filter_sublist⟩, rfl, rfl, rfl, by omega, hm⟩
  ·have := hp.tm; show 0 ≤ n ∧ n ≤ 1000000; omega
  ·have := List.length_filter_le (fun k : Kp => !decide (k.h.L ≤ n)) p.kp
   have := hp.few
   show (p.kp.filter _).length ≤ 12
   omega
  ·intro k hk
   have := (hm k).1 hk
   exact kcode_zero.2 (later_ok (hp.bun this.1) this.2 (Int.le_refl _))

theorem bundle_none {p : Pl} {r : Rc} (hp : PlOk p) (hn : findL p.kp r.h.F r.h.Q = none) (h0 : (p.bundle r).1 = 0) : p.bundle r = (0, insK p.kp (placeOf p.kp r.h) (kp0 r.h), placeOf p.kp r.h) ∧ ¬ (r.k = 3 ∨ r.k = 4 ∨ r.k = 5) ∧ p.tm < r.h.L ∧ r.h.F ≠ p.me ∧ p.kp.length < 12 := by
 unfold Pl.bundle at h0 ⊢
 rw [hn] at h0 ⊢
 simp only at h0 ⊢
 split at h0
 ·omega
 ·rename_i g1
  rw [if_neg g1]
  split at h0
  ·omega
  ·rename_i g2
   rw [if_neg g2]
   split at h0
   ·omega
   ·rename_i g3
    rw [if_neg g3]
    split at h0
    ·omega
    ·rename_i g4
     rw [if_neg g4]
     exact ⟨rfl, g1, by omega, g3, by omega⟩

theorem bundle_some {p : Pl} {r : Rc} {i : Nat} (hn : findL p.kp r.h.F r.h.Q = some i) (h0 : (p.bundle r).1 = 0) : p.bundle r = (0, p.kp, i) ∧ p.tm < r.h.L ∧ ∃ hi : i < p.kp.length, p.kp[i].h = r.h := by
 obtain ⟨hi, _⟩ := findL_some hn
 unfold Pl.bundle at h0 ⊢
 rw [hn] at h0 ⊢
 simp only at h0 ⊢
 split at h0
 ·omega
 ·rename_i g1
  rw [if_neg g1]
  split at h0
  ·omega
  ·rename_i g2
   rw [if_neg g2]
   refine ⟨rfl, by omega, hi, ?_⟩
   have := Classical.not_not.1 g2
   rw [List.getElem?_map, List.getElem?_eq_getElem hi] at this
   simpa using this

theorem does_ok {p : Pl} {r : Rc} (hp : PlOk p) (hr : r.code = 0) (h0 : (p.does r).1 = 0) : PlOk (p.does r).2 ∧ (p.does r).2.me = p.me ∧ p.sq ≤ (p.does r).2.sq ∧
  ((r.k = 8 ∧ (p.does r).2.tm = r.n ∧ p.tm < r.n ∧ ∀ y, y ∈ (p.does r).2.kp ↔ y ∈ p.kp ∧ r.n < y.h.L) ∨ (r.k ≠ 8 ∧ ∃ z, Made p r (p.does r).2 z)) := by
 obtain ⟨fk, ⟨fp, fy, fn⟩, fh, fs, fc⟩ := rc_facts hr
 unfold Pl.does at h0 ⊢
 by_cases k1 : r.k = 1
 ·rw [if_pos k1] at h0 ⊢
  obtain ⟨a1, a2, a3, a4⟩ := send_ok hp hr k1 h0
  exact ⟨a1, a2, a3, Or.inr ⟨by omega, a4⟩⟩
 ·rw [if_neg k1] at h0 ⊢
  by_cases k8 : r.k = 8
  ·rw [if_pos k8] at h0 ⊢
   obtain ⟨a1, a2, a3, a4, a5, a6⟩ := tick_ok hp fn.2 h0
   exact ⟨a1, a2, by rw [a3]; exact Int.le_refl _, Or.inl ⟨k8, a4, a5, a6⟩⟩
  ·rw [if_neg k8] at h0 ⊢
   by_cases hb : (p.bundle r).1 ≠ 0
   ·rw [if_pos hb] at h0
    exact absurd h0 hb
   ·rw [if_neg hb] at h0 ⊢
    have hb' := Classical.not_not.1 hb
    cases e : findL p.kp r.h.F r.h.Q with
    | none =>
     obtain ⟨b1, b2, b3, b4, b5⟩ := bundle_none hp e hb'
     rw [b1] at h0 ⊢
     simp only at h0 ⊢
     rw [insK_at _ (placeOf_le _ _)] at h0 ⊢
     simp only at h0 ⊢
     have D := kdoes_ok (kp0_ok (me := p.me) (tm := p.tm) (sq := p.sq) (fh k8) b3 b4) hr rfl k1 k8 h0
     generalize (Kp.does p.me (kp0 r.h) r).2 = z at D ⊢
     have hlen : placeOf p.kp r.h < (insK p.kp (placeOf p.kp r.h) (kp0 r.h)).length := by rw [insK_length]; have := placeOf_le p.kp r.h; omega
     have hget : (insK p.kp (placeOf p.kp r.h) (kp0 r.h))[placeOf p.kp r.h]'hlen = kp0 r.h := by
      have := insK_at (l := p.kp) (kp0 r.h) (placeOf_le p.kp r.h)
      rw [List.getElem?_eq_getElem hlen] at this
      simpa using this
     have hset : (insK p.kp (placeOf p.kp r.h) (kp0 r.h)).set (placeOf p.kp r.h) z = insK p.kp (placeOf p.kp r.h) z := by
      unfold insK
      have hle := placeOf_le p.kp r.h
      rw [List.set_append_right _ _ (by rw [List.length_take]; omega), List.length_take, show placeOf p.kp r.h - min (placeOf p.kp r.h) p.kp.length = 0 by omega]
      rfl
     rw [hset]
     have hzh : z.h = r.h := D.hd
     refine ⟨⟨hp.me, hp.tm, hp.sq, ?_, ?_, ins_sorted hp.sorted e hzh⟩, by first | rfl | trivial, Int.le_refl _, Or.inr ⟨k8, z, insK_mem.2 (Or.inl rfl), hzh, ?_, ?_, b3, rfl, Or.inr ⟨k1, kp0 r.h, Or.inr ⟨e, rfl, by omega⟩, D⟩⟩⟩
     ·show (insK _ _ _).length ≤ 12; rw [insK_length]; omega
     ·intro x hx
      rcases insK_mem.1 hx with rfl | hx
      ·exact kcode_zero.2 D.ok
      ·exact hp.all x hx
     ·intro y hy
      rcases insK_mem.1 hy with h | h
      ·exact Or.inl h
      ·exact Or.inr ⟨h, findL_none.1 e y h⟩
     ·intro y hy _
      exact insK_mem.2 (Or.inr hy)
    | some i =>
     obtain ⟨b1, b3, hi, hih⟩ := bundle_some e hb'
     rw [b1] at h0 ⊢
     simp only at h0 ⊢
     rw [List.getElem?_eq_getElem hi] at h0 ⊢
     simp only at h0 ⊢
     have D := kdoes_ok (hp.bun (List.getElem_mem hi)) hr hih k1 k8 h0
     generalize (Kp.does p.me p.kp[i] r).2 = z at D ⊢
     have hzh : z.h = r.h := D.hd.trans hih
     refine ⟨⟨hp.me, hp.tm, hp.sq, ?_, ?_, set_sorted hp.sorted hi D.hd⟩, by first | rfl | trivial, Int.le_refl _, Or.inr ⟨k8, z, ?_, hzh, ?_, ?_, b3, rfl, Or.inr ⟨k1, p.kp[i], Or.inl ⟨List.getElem_mem hi, hih⟩, D⟩⟩⟩
     ·show (p.kp.set i z).length ≤ 12; rw [List.length_set]; exact hp.few
     ·intro x hx
      rcases List.mem_or_eq_of_mem_set hx with hx | rfl
      ·exact hp.all x hx
      ·exact kcode_zero.2 D.ok
     ·exact List.mem_set hi z
     ·intro y hy
      obtain ⟨j, hj, rfl⟩ := List.getElem_of_mem hy
      have hj' : j < p.kp.length := by simpa using hj
      show (p.kp.set i z)[j] = z ∨ _
      by_cases hij : i = j
      ·subst hij; left; simp
      ·right
       have e2 : (p.kp.set i z)[j] = p.kp[j] := List.getElem_set_ne hij hj
       rw [e2]
       refine ⟨List.getElem_mem hj', fun hk => hij ?_⟩
       exact sorted_inj hp.sorted hi hj' (by rw [hih, hk])
     ·intro y hy hne
      obtain ⟨j, hj, rfl⟩ := List.getElem_of_mem hy
      have hij : i ≠ j := fun e' => by subst e'; exact hne (by rw [hih])
      show p.kp[j] ∈ p.kp.set i z
      rw [← List.getElem_set_ne hij (by simpa using hj)]
      exact List.getElem_mem _

theorem next_zero {p : Pl} {r : Rc} (h : p.nextCode r = 0) : PlOk p ∧ r.code = 0 ∧ (p.does r).1 = 0 ∧ p.next r = (p.does r).2 := by
 have h' := h
 unfold Pl.nextCode at h
 split at h
 ·rename_i g; exact absurd h g
 ·rename_i g1
  split at h
  ·rename_i g; exact absurd h g
  ·rename_i g2
   refine ⟨code_zero.1 (Classical.not_not.1 g1), Classical.not_not.1 g2, h, ?_⟩
   rw [Pl.next, if_pos h']

theorem next_bad {p : Pl} {r : Rc} (h : p.nextCode r ≠ 0) : p.next r = pl0 := if_neg h

noncomputable def repl : Pl → List Rc → Int × Pl
 | p, [] => (0, p)
 | p, r :: l => if p.nextCode r ≠ 0 then (p.nextCode r, pl0) else repl (p.next r) l

theorem repl_append : ∀ (a b : List Rc) (p : Pl), repl p (a ++ b) = if (repl p a).1 ≠ 0 then repl p a else repl (repl p a).2 b
 | [], b, p => by simp [repl]
 | r :: a, b, p => by
  rw [List.cons_append, repl, repl]
  by_cases h : p.nextCode r ≠ 0
  ·rw [if_pos h, if_pos h, if_pos h]
  ·rw [if_neg h, if_neg h, repl_append a b]

def plNew (me : Int) : Pl := ⟨me, [], 0, 0⟩

def newCode (me : Int) : Int := if 0 ≤ me ∧ me ≤ 3 then 0 else 3

theorem newCode_eq (me : Int) : (plNew me).code = newCode me := by
 unfold Pl.code plNew newCode
 by_cases h : 0 ≤ me ∧ me ≤ 3
 ·rw [if_neg (fun hn => hn ⟨h, (by show (0:Int) ≤ 0 ∧ (0:Int) ≤ 1000000; decide), (by show (0:Int) ≤ 0 ∧ (0:Int) ≤ 50; decide)⟩), if_pos h, if_neg (by simp)]
  rfl
 ·rw [if_pos (fun hn => h hn.1), if_neg h]

noncomputable def replayC (me : Int) (l : List Rc) : Int := if newCode me ≠ 0 then newCode me else if 200 < l.length then 2 else (repl (plNew me) l).1
noncomputable def replayP (me : Int) (l : List Rc) : Pl := if newCode me ≠ 0 then pl0 else if 200 < l.length then pl0 else if (repl (plNew me) l).1 ≠ 0 then pl0 else (repl (plNew me) l).2

theorem replay_zero {me : Int} {l : List Rc} (h : replayC me l = 0) : newCode me = 0 ∧ l.length ≤ 200 ∧ (repl (plNew me) l).1 = 0 ∧ replayP me l = (repl (plNew me) l).2 := by
 unfold replayC at h
 split at h
 ·rename_i g; exact absurd h g
 ·rename_i g1
  split at h
  ·omega
  ·rename_i g2
   refine ⟨Classical.not_not.1 g1, by omega, h, ?_⟩
   rw [replayP, if_neg g1, if_neg g2, if_neg (by omega)]

end Go.Proofs.YtakkajjoeimkdaaGreatDoor
