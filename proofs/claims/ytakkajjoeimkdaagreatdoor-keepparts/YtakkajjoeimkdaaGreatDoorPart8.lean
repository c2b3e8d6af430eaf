import Derived.Test.YtakkajjoeimkdaaGreatDoorPart7
import Derived.Test.YtakkajjoeimkdaaGreatDoorPart1
import Derived.Test.YtakkajjoeimkdaaGreatDoorPart3
import Derived.Test.YtakkajjoeimkdaaGreatDoorPart5
import Derived.Orders
namespace Go.Proofs.YtakkajjoeimkdaaGreatDoor
open Go.RowKit
set_option linter.unusedVariables false
set_option linter.unusedSimpArgs false

def Hd.key (h : Hd) : Int × Int := (h.F, h.Q)

theorem key_iff {a b : Hd} : a.key = b.key ↔ a.F = b.F ∧ a.Q = b.Q := by simp [Hd.key]

theorem ahead_or {a b : Hd} (h : a.key ≠ b.key) : a.ahead b = true ∨ b.ahead a = true := by
 have h' : ¬ (a.F = b.F ∧ a.Q = b.Q) := fun e => h (key_iff.2 e)
 simp only [Hd.ahead, Bool.or_eq_true, Bool.and_eq_true, decide_eq_true_eq, beq_iff_eq]
 omega

theorem ahead_key {a b : Hd} (h : a.ahead b = true) : a.key ≠ b.key := by
 intro e
 have := key_iff.1 e
 simp only [Hd.ahead, Bool.or_eq_true, Bool.and_eq_true, decide_eq_true_eq, beq_iff_eq] at h
 omega

theorem findL_none {l : List Kp} {f q : Int} : findL l f q = none ↔ ∀ k ∈ l, k.h.key ≠ (f, q) := by
 unfold findL
 rw [List.findIdx?_eq_none_iff]
 constructor
 ·intro h k hk e
  have := h k hk
  have e2 := key_iff (b := ⟨f, q, 0, 0, 0, 0⟩).1 e
  simp [e2.1, e2.2] at this
 ·intro h k hk
  have := h k hk
  cases e : (k.h.F == f && k.h.Q == q)
  ·rfl
  ·simp only [Bool.and_eq_true, beq_iff_eq] at e
   exact absurd (show k.h.key = (f, q) by simp [Hd.key, e.1, e.2]) this

theorem findL_some {l : List Kp} {f q : Int} {i : Nat} (h : findL l f q = some i) : ∃ hi : i < l.length, l[i].h.key = (f, q) := by
 unfold findL at h
 rw [List.findIdx?_eq_some_iff_getElem] at h
 obtain ⟨hi, h1, _⟩ := h
 simp only [Bool.and_eq_true, beq_iff_eq] at h1
 exact ⟨hi, by simp [Hd.key, h1.1, h1.2]⟩

theorem sorted_inj {l : List Kp} (hs : SortedK l) : ∀ {i j : Nat} (hi : i < l.length) (hj : j < l.length), l[i].h.key = l[j].h.key → i = j := by
 intro i j hi hj e
 rcases Nat.lt_trichotomy i j with h | h | h
 ·exact absurd e (ahead_key (List.pairwise_iff_getElem.1 hs i j hi hj h))
 ·exact h
 ·exact absurd e.symm (ahead_key (List.pairwise_iff_getElem.1 hs j i hj hi h))

theorem placeOf_le (l : List Kp) (h : Hd) : placeOf l h ≤ l.length := by
 unfold placeOf
 cases e : l.findIdx? (fun o => h.ahead o.h) with
 | none => exact Nat.le_refl _
 | some i =>
  rw [List.findIdx?_eq_some_iff_getElem] at e
  obtain ⟨hi, _⟩ := e
  exact Nat.le_of_lt hi

theorem insK_length (l : List Kp) (i : Nat) (k : Kp) : (insK l i k).length = l.length + 1 := by
 unfold insK
 rw [List.length_append, List.length_cons, List.length_take, List.length_drop]
 omega

theorem insK_mem {l : List Kp} {i : Nat} {k x : Kp} : x ∈ insK l i k ↔ x = k ∨ x ∈ l := by
 unfold insK
 rw [List.mem_append, List.mem_cons]
 have : x ∈ l ↔ x ∈ l.take i ∨ x ∈ l.drop i := by rw [← List.mem_append, List.take_append_drop]
 rw [this]
 constructor
 ·rintro (h | h | h)
  ·exact Or.inr (Or.inl h)
  ·exact Or.inl h
  ·exact Or.inr (Or.inr h)
 ·rintro (h | h | h)
  ·exact Or.inr (Or.inl h)
  ·exact Or.inl h
  ·exact Or.inr (Or.inr h)

theorem insK_at {l : List Kp} {i : Nat} (k : Kp) (hi : i ≤ l.length) : (insK l i k)[i]? = some k := by
 unfold insK
 rw [List.getElem?_append_right (by rw [List.length_take]; omega), List.length_take, show i - min i l.length = 0 by omega]
 rfl

theorem ins_sorted {l : List Kp} {h : Hd} {k : Kp} (hs : SortedK l) (hn : findL l h.F h.Q = none) (hk : k.h = h) : SortedK (insK l (placeOf l h) k) := by
 have hne : ∀ x ∈ l, x.h.key ≠ h.key := findL_none.1 hn
 have hlt : ∀ j (hj : j < l.length), j < placeOf l h → l[j].h.ahead h = true := by
  intro j hj hjp
  have hf : ¬ h.ahead l[j].h = true := by
   unfold placeOf at hjp
   cases e : l.findIdx? (fun o => h.ahead o.h) with
   | none =>
    rw [List.findIdx?_eq_none_iff] at e
    simpa using e l[j] (List.getElem_mem hj)
   | some i =>
    rw [e] at hjp
    rw [List.findIdx?_eq_some_iff_getElem] at e
    obtain ⟨hi, _, h2⟩ := e
    exact h2 j hjp
  rcases ahead_or (hne l[j] (List.getElem_mem hj)) with g | g
  ·exact g
  ·exact absurd g hf
 have hge : ∀ j (hj : j < l.length), placeOf l h ≤ j → h.ahead l[j].h = true := by
  intro j hj hjp
  unfold placeOf at hjp
  cases e : l.findIdx? (fun o => h.ahead o.h) with
  | none =>
   rw [e] at hjp
   simp at hjp
   omega
  | some i =>
   rw [e] at hjp
   simp only [Option.getD_some] at hjp
   rw [List.findIdx?_eq_some_iff_getElem] at e
   obtain ⟨hi, h1, _⟩ := e
   rcases Nat.lt_or_eq_of_le hjp with g | g
   ·exact ahead_trans h1 (List.pairwise_iff_getElem.1 hs i j hi hj g)
   ·subst g; exact h1
 generalize placeOf l h = i at *
 unfold SortedK insK
 rw [List.pairwise_append]
 refine ⟨hs.sublist (List.take_sublist _ _), List.pairwise_cons.2 ⟨fun x hx => ?_, hs.sublist (List.drop_sublist _ _)⟩, fun a ha b hb => ?_⟩
 ·obtain ⟨j, hj, rfl⟩ := List.getElem_of_mem hx
  rw [List.getElem_drop, hk]
  exact hge _ _ (by omega)
 ·obtain ⟨j, hj, rfl⟩ := List.getElem_of_mem ha
  rw [List.getElem_take]
  have hj' : j < i ∧ j < l.length := by rw [List.length_take] at hj; omega
  have h1 := hlt j hj'.2 hj'.1
  rcases List.mem_cons.1 hb with rfl | hb
  ·rw [hk]; exact h1
  ·obtain ⟨t, ht, rfl⟩ := List.getElem_of_mem hb
   rw [List.getElem_drop]
   exact ahead_trans h1 (hge _ _ (by omega))

theorem set_sorted {l : List Kp} {i : Nat} {k : Kp} (hs : SortedK l) (hi : i < l.length) (hk : k.h = l[i].h) : SortedK (l.set i k) := by
 unfold SortedK at *
 rw [List.pairwise_iff_getElem] at *
 intro a b ha hb hab
 have e : ∀ j (hj : j < (l.set i k).length), ((l.set i k)[j]).h = (l[j]'(by simpa using hj)).h := by
  intro j hj
  rw [List.getElem_set]
  split
  ·rename_i e; subst e; exact hk
  ·rfl
 rw [e a ha, e b hb]
 exact hs a b (by simpa using ha) (by simpa using hb) hab

theorem kp0_ok {me tm sq : Int} {h : Hd} (hh : hdCode h = 0) (hl : tm < h.L) (hf : h.F ≠ me) : KpOk me tm sq (kp0 h) :=
 ⟨hh, hl, by simp [Kp.owned, kp0, hf], ⟨Nat.zero_le _, Nat.zero_le _⟩, rfl, rfl, rfl, rfl, fun e => by cases e⟩

theorem later_ok {me tm tm' sq sq' : Int} {k : Kp} (h : KpOk me tm sq k) (ht : tm' < k.h.L) (hs : sq ≤ sq') : KpOk me tm' sq' k :=
 ⟨h.hd, ht, h.own, h.few, h.syms, h.shares, h.took, h.done, fun e => by have := h.seq e; omega⟩

theorem PlOk.bun {p : Pl} (h : PlOk p) {k : Kp} (hk : k ∈ p.kp) : KpOk p.me p.tm p.sq k := kcode_zero.1 (h.all k hk)

structure Made (p : Pl) (r : Rc) (q : Pl) (z : Kp) : Prop where
 mem : z ∈ q.kp
 hd : z.h = r.h
 old : ∀ y ∈ q.kp, y = z ∨ (y ∈ p.kp ∧ y.h.key ≠ r.h.key)
 stay : ∀ y ∈ p.kp, y.h.key ≠ r.h.key → y ∈ q.kp
 late : p.tm < r.h.L
 tm : q.tm = p.tm
 how : (r.k = 1 ∧ findL p.kp r.h.F r.h.Q = none ∧ z.sh = r.n ∧ z.dl = false) ∨ (r.k ≠ 1 ∧ ∃ k, ((k ∈ p.kp ∧ k.h = r.h) ∨ (findL p.kp r.h.F r.h.Q = none ∧ k = kp0 r.h ∧ r.k ≠ 3)) ∧ DoesOk p.me p.tm q.sq k r z)

theorem send_ok {p : Pl} {r : Rc} (hp : PlOk p) (hr : r.code = 0) (hk : r.k = 1) (h0 : (p.send r).1 = 0) : PlOk (p.send r).2 ∧ (p.send r).2.me = p.me ∧ p.sq ≤ (p.send r).2.sq ∧ ∃ z, Made p r (p.send r).2 z := by
 obtain ⟨fk, ⟨fp, fy, fn⟩, fh, fs, fc⟩ := rc_facts hr
 obtain ⟨hf1, hf2, hf3⟩ := hd_fits (fh (by omega))
 unfold Pl.send at h0 ⊢
 split at h0
 ·omega
 ·rename_i g1
  rw [if_neg g1]
  split at h0
  ·omega
  ·rename_i g2
   rw [if_neg g2]
   split at h0
   ·omega
   ·rename_i g3
    rw [if_neg g3]
    split at h0
    ·omega
    ·rename_i g4
     rw [if_neg g4]
     have g1' := Classical.not_not.1 g1
     have g3' := Classical.not_not.1 g3
     have hnone : findL p.kp r.h.F r.h.Q = none := by
      cases e : findL p.kp r.h.F r.h.Q with
      | none => rfl
      | some i =>
       exfalso
       obtain ⟨hi, he⟩ := findL_some e
       have hb := hp.bun (List.getElem_mem hi)
       have he' : p.kp[i].h.F = r.h.F ∧ p.kp[i].h.Q = r.h.Q := key_iff.1 he
       have ho := hb.own
       simp only [Kp.owned, Bool.and_eq_true, beq_iff_eq] at ho
       have h1 : p.kp[i].own = true := by rw [ho.1, he'.1, g1']; simp
       have := hb.seq h1
       omega
     have hz : KpOk p.me p.tm (p.sq + 1) ({ kp0 r.h with own := true, c := r.c, sh := r.n } : Kp) := by
      refine ⟨fh (by omega), ?_, ?_, ⟨Nat.zero_le _, Nat.zero_le _⟩, rfl, ?_, rfl, rfl, ?_⟩
      ·show p.tm < r.h.L; omega
      ·simp only [Kp.owned, kp0, Bool.and_eq_true]
       have := fc (Or.inl hk)
       simp [g1', this]
      ·refine shares_zero.2 ⟨⟨?_, (show (0:Int) ≤ 0 ∧ (0:Int) ≤ 64 by decide), (show (0:Int) ≤ 0 ∧ (0:Int) ≤ 3 by decide), (show (0:Int) ≤ 0 ∧ (0:Int) ≤ 9999 by decide)⟩, fun _ => rfl, fun h => absurd rfl h⟩
       show 0 ≤ r.n ∧ r.n ≤ 64
       omega
      ·intro _; show r.h.Q < p.sq + 1; omega
     have hq49 := hf1.2.2.1
     refine ⟨⟨hp.me, hp.tm, ?_, ?_, ?_, ins_sorted hp.sorted hnone rfl⟩, rfl, ?_, ({ kp0 r.h with own := true, c := r.c, sh := r.n } : Kp), ?_, rfl, ?_, ?_, ?_, rfl, Or.inl ⟨hk, hnone, rfl, rfl⟩⟩
     ·have := hp.sq; show 0 ≤ p.sq + 1 ∧ p.sq + 1 ≤ 50; omega
     ·show (insK _ _ _).length ≤ 12; rw [insK_length]; omega
     ·intro x hx
      rcases insK_mem.1 hx with rfl | hx
      ·exact kcode_zero.2 hz
      ·exact kcode_zero.2 (later_ok (hp.bun hx) (hp.bun hx).late (show p.sq ≤ p.sq + 1 by omega))
     ·show p.sq ≤ p.sq + 1; omega
     ·exact insK_mem.2 (Or.inl rfl)
     ·intro y hy
      rcases insK_mem.1 hy with h | h
      ·exact Or.inl h
      ·exact Or.inr ⟨h, findL_none.1 hnone y h⟩
     ·intro y hy _
      exact insK_mem.2 (Or.inr hy)
     ·omega

theorem tick_ok {p : Pl} {n : Int} (hp : PlOk p) (hn : n ≤ 1000000) (h0 : (p.tick n).1 = 0) : PlOk (p.tick n).2 ∧ (p.tick n).2.me = p.me ∧ (p.tick n).2.sq = p.sq ∧ (p.tick n).2.tm = n ∧ p.tm < n ∧ ∀ y, y ∈ (p.tick n).2.kp ↔ y ∈ p.kp ∧ n < y.h.L := by
 unfold Pl.tick at h0 ⊢
 split at h0
 ·omega
 ·rename_i g1
  rw [if_neg g1]
  have hm : ∀ y, y ∈ (p.kp.filter fun k => !decide (k.h.L ≤ n)) ↔ y ∈ p.kp ∧ n < y.h.L := by
   intro y
   rw [List.mem_filter]
   simp
  refine ⟨⟨hp.me, ?_, hp.sq, ?_, ?_, hp.sorted.sublist List.filter_sublist⟩, rfl, rfl, rfl, by omega, hm⟩
  ·have := hp.tm; show 0 ≤ n ∧ n ≤ 1000000; omega
  ·have := List.length_filter_le (fun k : Kp => !decide (k.h.L ≤ n)) p.kp
   have := hp.few
   show (p.kp.filter _).length ≤ 12
   omega
  ·intro k hk
   have := (hm k).1 hk
   exact kcode_zero.2 (later_ok (hp.bun this.1) this.2 (Int.le_refl _))

theorem bundle_none {p : Pl} {r : Rc} (hp : PlOk p) (hn : findL p.kp r.h.F r.h.Q = none) (h0 : (p.bundle r).1 = 0) : p.bundle r = (0, insK p.kp (placeOf p.kp r.h) (kp0 r.h), placeOf p.kp r.h) ∧ ¬ (r.k = 3 ∨ r.k = 4 ∨ r.k = 5) ∧ p.tm < r.h.L ∧ r.h.F ≠ p.me ∧ p.kp.length < 12 := by
 unfold Pl.bundle at h0 ⊢
 rw [hn] at h0 ⊢
 simp only at h0 ⊢
 split at h0
 ·omega
 ·rename_i g1
  rw [if_neg g1]
  split at h0
  ·omega
  ·rename_i g2
   rw [if_neg g2]
   split at h0
   ·omega
   ·rename_i g3
    rw [if_neg g3]
    split at h0
    ·omega
    ·rename_i g4
     rw [if_neg g4]
     exact ⟨rfl, g1, by omega, g3, by omega⟩

theorem bundle_some {p : Pl} {r : Rc} {i : Nat} (hn : findL p.kp r.h.F r.h.Q = some i) (h0 : (p.bundle r).1 = 0) : p.bundle r = (0, p.kp, i) ∧ p.tm < r.h.L ∧ ∃ hi : i < p.kp.length, p.kp[i].h = r.h := by
 obtain ⟨hi, _⟩ := findL_some hn
 unfold Pl.bundle at h0 ⊢
 rw [hn] at h0 ⊢
 simp only at h0 ⊢
 split at h0
 ·omega
 ·rename_i g1
  rw [if_neg g1]
  split at h0
  ·omega
  ·rename_i g2
   rw [if_neg g2]
   refine ⟨rfl, by omega, hi, ?_⟩
   have := Classical.not_not.1 g2
   rw [List.getElem?_map, List.getElem?_eq_getElem hi] at this
   simpa using this

theorem does_ok {p : Pl} {r : Rc} (hp : PlOk p) (hr : r.code = 0) (h0 : (p.does r).1 = 0) : PlOk (p.does r).2 ∧ (p.does r).2.me = p.me ∧ p.sq ≤ (p.does r).2.sq ∧
  ((r.k = 8 ∧ (p.does r).2.tm = r.n ∧ p.tm < r.n ∧ ∀ y, y ∈ (p.does r).2.kp ↔ y ∈ p.kp ∧ r.n < y.h.L) ∨ (r.k ≠ 8 ∧ ∃ z, Made p r (p.does r).2 z)) := by
 obtain ⟨fk, ⟨fp, fy, fn⟩, fh, fs, fc⟩ := rc_facts hr
 unfold Pl.does at h0 ⊢
 by_cases k1 : r.k = 1
 ·rw [if_pos k1] at h0 ⊢
  obtain ⟨a1, a2, a3, a4⟩ := send_ok hp hr k1 h0
  exact ⟨a1, a2, a3, Or.inr ⟨by omega, a4⟩⟩
 ·rw [if_neg k1] at h0 ⊢
  by_cases k8 : r.k = 8
  ·rw [if_pos k8] at h0 ⊢
   obtain ⟨a1, a2, a3, a4, a5, a6⟩ := tick_ok hp fn.2 h0
   exact ⟨a1, a2, by rw [a3]; exact Int.le_refl _, Or.inl ⟨k8, a4, a5, a6⟩⟩
  ·rw [if_neg k8] at h0 ⊢
   by_cases hb : (p.bundle r).1 ≠ 0
   ·rw [if_pos hb] at h0
    exact absurd h0 hb
   ·rw [if_neg hb] at h0 ⊢
    have hb' := Classical.not_not.1 hb
    cases e : findL p.kp r.h.F r.h.Q with
    | none =>
     obtain ⟨b1, b2, b3, b4, b5⟩ := bundle_none hp e hb'
     rw [b1] at h0 ⊢
     simp only at h0 ⊢
     rw [insK_at _ (placeOf_le _ _)] at h0 ⊢
     simp only at h0 ⊢
     have D := kdoes_ok (kp0_ok (me := p.me) (tm := p.tm) (sq := p.sq) (fh k8) b3 b4) hr rfl k1 k8 h0
     generalize (Kp.does p.me (kp0 r.h) r).2 = z at D ⊢
     have hlen : placeOf p.kp r.h < (insK p.kp (placeOf p.kp r.h) (kp0 r.h)).length := by rw [insK_length]; have := placeOf_le p.kp r.h; omega
     have hget : (insK p.kp (placeOf p.kp r.h) (kp0 r.h))[placeOf p.kp r.h]'hlen = kp0 r.h := by
      have := insK_at (l := p.kp) (kp0 r.h) (placeOf_le p.kp r.h)
      rw [List.getElem?_eq_getElem hlen] at this
      simpa using this
     have hset : (insK p.kp (placeOf p.kp r.h) (kp0 r.h)).set (placeOf p.kp r.h) z = insK p.kp (placeOf p.kp r.h) z := by
      unfold insK
      have hle := placeOf_le p.kp r.h
      rw [List.set_append_right _ _ (by rw [List.length_take]; omega), List.length_take, show placeOf p.kp r.h - min (placeOf p.kp r.h) p.kp.length = 0 by omega]
      rfl
     rw [hset]
     have hzh : z.h = r.h := D.hd
     refine ⟨⟨hp.me, hp.tm, hp.sq, ?_, ?_, ins_sorted hp.sorted e hzh⟩, by first | rfl | trivial, Int.le_refl _, Or.inr ⟨k8, z, insK_mem.2 (Or.inl rfl), hzh, ?_, ?_, b3, rfl, Or.inr ⟨k1, kp0 r.h, Or.inr ⟨e, rfl, by omega⟩, D⟩⟩⟩
     ·show (insK _ _ _).length ≤ 12; rw [insK_length]; omega
     ·intro x hx
      rcases insK_mem.1 hx with rfl | hx
      ·exact kcode_zero.2 D.ok
      ·exact hp.all x hx
     ·intro y hy
      rcases insK_mem.1 hy with h | h
      ·exact Or.inl h
      ·exact Or.inr ⟨h, findL_none.1 e y h⟩
     ·intro y hy _
      exact insK_mem.2 (Or.inr hy)
    | some i =>
     obtain ⟨b1, b3, hi, hih⟩ := bundle_some e hb'
     rw [b1] at h0 ⊢
     simp only at h0 ⊢
     rw [List.getElem?_eq_getElem hi] at h0 ⊢
     simp only at h0 ⊢
     have D := kdoes_ok (hp.bun (List.getElem_mem hi)) hr hih k1 k8 h0
     generalize (Kp.does p.me p.kp[i] r).2 = z at D ⊢
     have hzh : z.h = r.h := D.hd.trans hih
     refine ⟨⟨hp.me, hp.tm, hp.sq, ?_, ?_, set_sorted hp.sorted hi D.hd⟩, by first | rfl | trivial, Int.le_refl _, Or.inr ⟨k8, z, ?_, hzh, ?_, ?_, b3, rfl, Or.inr ⟨k1, p.kp[i], Or.inl ⟨List.getElem_mem hi, hih⟩, D⟩⟩⟩
     ·show (p.kp.set i z).length ≤ 12; rw [List.length_set]; exact hp.few
     ·intro x hx
      rcases List.mem_or_eq_of_mem_set hx with hx | rfl
      ·exact hp.all x hx
      ·exact kcode_zero.2 D.ok
     ·exact List.mem_set hi z
     ·intro y hy
      obtain ⟨j, hj, rfl⟩ := List.getElem_of_mem hy
      have hj' : j < p.kp.length := by simpa using hj
      show (p.kp.set i z)[j] = z ∨ _
      by_cases hij : i = j
      ·subst hij; left; simp
      ·right
       have e2 : (p.kp.set i z)[j] = p.kp[j] := List.getElem_set_ne hij hj
       rw [e2]
       refine ⟨List.getElem_mem hj', fun hk => hij ?_⟩
       exact sorted_inj hp.sorted hi hj' (by rw [hih, hk])
     ·intro y hy hne
      obtain ⟨j, hj, rfl⟩ := List.getElem_of_mem hy
      have hij : i ≠ j := fun e' => by subst e'; exact hne (by rw [hih])
      show p.kp[j] ∈ p.kp.set i z
      rw [← List.getElem_set_ne hij (by simpa using hj)]
      exact List.getElem_mem _

theorem next_zero {p : Pl} {r : Rc} (h : p.nextCode r = 0) : PlOk p ∧ r.code = 0 ∧ (p.does r).1 = 0 ∧ p.next r = (p.does r).2 := by
 have h' := h
 unfold Pl.nextCode at h
 split at h
 ·rename_i g; exact absurd h g
 ·rename_i g1
  split at h
  ·rename_i g; exact absurd h g
  ·rename_i g2
   refine ⟨code_zero.1 (Classical.not_not.1 g1), Classical.not_not.1 g2, h, ?_⟩
   rw [Pl.next, if_pos h']

theorem next_bad {p : Pl} {r : Rc} (h : p.nextCode r ≠ 0) : p.next r = pl0 := if_neg h

noncomputable def repl : Pl → List Rc → Int × Pl
 | p, [] => (0, p)
 | p, r :: l => if p.nextCode r ≠ 0 then (p.nextCode r, pl0) else repl (p.next r) l

theorem repl_append : ∀ (a b : List Rc) (p : Pl), repl p (a ++ b) = if (repl p a).1 ≠ 0 then repl p a else repl (repl p a).2 b
 | [], b, p => by simp [repl]
 | r :: a, b, p => by
  rw [List.cons_append, repl, repl]
  by_cases h : p.nextCode r ≠ 0
  ·rw [if_pos h, if_pos h, if_pos h]
  ·rw [if_neg h, if_neg h, repl_append a b]

def plNew (me : Int) : Pl := ⟨me, [], 0, 0⟩

def newCode (me : Int) : Int := if 0 ≤ me ∧ me ≤ 3 then 0 else 3

theorem newCode_eq (me : Int) : (plNew me).code = newCode me := by
 unfold Pl.code plNew newCode
 by_cases h : 0 ≤ me ∧ me ≤ 3
 ·rw [if_neg (fun hn => hn ⟨h, (by show (0:Int) ≤ 0 ∧ (0:Int) ≤ 1000000; decide), (by show (0:Int) ≤ 0 ∧ (0:Int) ≤ 50; decide)⟩), if_pos h, if_neg (by simp)]
  rfl
 ·rw [if_pos (fun hn => h hn.1), if_neg h]

noncomputable def replayC (me : Int) (l : List Rc) : Int := if newCode me ≠ 0 then newCode me else if 200 < l.length then 2 else (repl (plNew me) l).1
noncomputable def replayP (me : Int) (l : List Rc) : Pl := if newCode me ≠ 0 then pl0 else if 200 < l.length then pl0 else if (repl (plNew me) l).1 ≠ 0 then pl0 else (repl (plNew me) l).2

theorem replay_zero {me : Int} {l : List Rc} (h : replayC me l = 0) : newCode me = 0 ∧ l.length ≤ 200 ∧ (repl (plNew me) l).1 = 0 ∧ replayP me l = (repl (plNew me) l).2 := by
 unfold replayC at h
 split at h
 ·rename_i g; exact absurd h g
 ·rename_i g1
  split at h
  ·omega
  ·rename_i g2
   refine ⟨Classical.not_not.1 g1, by omega, h, ?_⟩
   rw [replayP, if_neg g1, if_neg g2, if_neg (by omega)]

theorem within_any (n a b : Int) (w : World) :
  Calls Tryz.prog 62 #[.int .i64 n, .int .i64 a, .int .i64 b] w fun e w' => e = .returned (.bool (decide (a ≤ n ∧ n ≤ b))) ∧ w = w' := by
 by_cases h : a ≤ n
 ·have h1 : (n ≥ a) := h
  go_enter Tryz.func62, Tryz.ntmps62
  go_wp2
  go_ret
  exact ⟨retB (by simp [h]), rfl⟩
 ·have hs := Shut.mk (show decide (a ≤ n ∧ n ≤ b) = false by simp [h])
  have h1 : ¬ (n ≥ a) := h
  go_enter Tryz.func62, Tryz.ntmps62
  go_wp2
  go_ret
  exact ⟨retB (by simpa using hs.out.symm), rfl⟩

set_option maxRecDepth 8000 in
theorem head_any (h : Hd) (w : World) (ho : h.ok) :
  Calls Tryz.prog 64 #[h.val] w fun e w' => e = .returned (.int .i64 (hdCode h)) ∧ Below w.heap.size w w' := by
 obtain ⟨F, Q, T, L, B, K⟩ := h
 obtain ⟨oF, oQ, oT, oL, oB, oK⟩ := ho
 simp only [Hd.val] at *
 have hBl : Below w.heap.size w (w.alloc (.cells #[.int .i64 F, .int .i64 Q, .int .i64 T, .int .i64 L, .int .i64 B, .int .i64 K] 34)) := (Below.refl _ _).alloc (Nat.le_refl _) _
 by_cases h1 : 0 ≤ F ∧ F ≤ 3
 ·by_cases h2 : 0 ≤ T ∧ T ≤ 3
  ·by_cases h3 : 0 ≤ Q ∧ Q ≤ 49
   ·by_cases h4 : 1 ≤ L ∧ L ≤ 1000000
    ·have d1 := Shut.mk (decide_eq_true h1)
     have d2 := Shut.mk (decide_eq_true h2)
     have d3 := Shut.mk (decide_eq_true h3)
     have d4 := Shut.mk (decide_eq_true h4)
     have hf : (⟨F, Q, T, L, B, K⟩ : Hd).fits := ⟨h1, h2, h3, h4⟩
     by_cases h5 : F = T
     ·have hc : hdCode ⟨F, Q, T, L, B, K⟩ = 5 := by rw [hdCode, if_neg (by simp [hf]), if_pos h5]
      have HC := Shut.mk hc
      have h5' : (F == T) = true := by simpa using h5
      clear h1 h2 h3 h4 hf hc h5
      go_enter Tryz.func64, Tryz.ntmps64
      go_wp2_with fail
      refine (within_any F 0 3 _).mono ?_
      rintro e w2 ⟨rfl, rfl⟩
      rw [d1.out]
      go_wp2_with fail
      refine (within_any T 0 3 _).mono ?_
      rintro e w2 ⟨rfl, rfl⟩
      rw [d2.out]
      go_wp2_with fail
      refine (within_any Q 0 49 _).mono ?_
      rintro e w2 ⟨rfl, rfl⟩
      rw [d3.out]
      go_wp2_with fail
      refine (within_any L 1 1000000 _).mono ?_
      rintro e w2 ⟨rfl, rfl⟩
      rw [d4.out]
      go_wp2
      go_ret
      exact ⟨ret_int HC.out.symm, hBl⟩
     ·have hc : hdCode ⟨F, Q, T, L, B, K⟩ = chkP B K := by rw [hdCode, if_neg (by simp [hf]), if_neg h5]
      have HC := Shut.mk hc
      have h5' : (F == T) = false := by simpa using h5
      have hP := cutCheck_any B K (w.alloc (.cells #[.int .i64 F, .int .i64 Q, .int .i64 T, .int .i64 L, .int .i64 B, .int .i64 K] 34)) oB oK
      clear h1 h2 h3 h4 hf hc h5
      go_enter Tryz.func64, Tryz.ntmps64
      go_wp2_with fail
      refine (within_any F 0 3 _).mono ?_
      rintro e w2 ⟨rfl, rfl⟩
      rw [d1.out]
      go_wp2_with fail
      refine (within_any T 0 3 _).mono ?_
      rintro e w2 ⟨rfl, rfl⟩
      rw [d2.out]
      go_wp2_with fail
      refine (within_any Q 0 49 _).mono ?_
      rintro e w2 ⟨rfl, rfl⟩
      rw [d3.out]
      go_wp2_with fail
      refine (within_any L 1 1000000 _).mono ?_
      rintro e w2 ⟨rfl, rfl⟩
      rw [d4.out]
      go_wp2_with fail
      refine hP.mono ?_
      rintro e w3 ⟨rfl, hb3⟩
      have hF := hBl.trans (hb3.mono hBl.size)
      clear hP hb3
      go_wp2
      go_ret
      exact ⟨ret_int HC.out.symm, hF⟩
    ·have d1 := Shut.mk (decide_eq_true h1)
     have d2 := Shut.mk (decide_eq_true h2)
     have d3 := Shut.mk (decide_eq_true h3)
     have d4 := Shut.mk (decide_eq_false h4)
     have HC : Shut (hdCode ⟨F, Q, T, L, B, K⟩ = 3) := ⟨by rw [hdCode, if_pos (fun hf => h4 hf.2.2.2)]⟩
     clear h1 h2 h3 h4
     go_enter Tryz.func64, Tryz.ntmps64
     go_wp2_with fail
     refine (within_any F 0 3 _).mono ?_
     rintro e w2 ⟨rfl, rfl⟩
     rw [d1.out]
     go_wp2_with fail
     refine (within_any T 0 3 _).mono ?_
     rintro e w2 ⟨rfl, rfl⟩
     rw [d2.out]
     go_wp2_with fail
     refine (within_any Q 0 49 _).mono ?_
     rintro e w2 ⟨rfl, rfl⟩
     rw [d3.out]
     go_wp2_with fail
     refine (within_any L 1 1000000 _).mono ?_
     rintro e w2 ⟨rfl, rfl⟩
     rw [d4.out]
     go_wp2
     go_ret
     exact ⟨ret_int HC.out.symm, hBl⟩
   ·have d1 := Shut.mk (decide_eq_true h1)
    have d2 := Shut.mk (decide_eq_true h2)
    have d3 := Shut.mk (decide_eq_false h3)
    have HC : Shut (hdCode ⟨F, Q, T, L, B, K⟩ = 3) := ⟨by rw [hdCode, if_pos (fun hf => h3 hf.2.2.1)]⟩
    clear h1 h2 h3
    go_enter Tryz.func64, Tryz.ntmps64
    go_wp2_with fail
    refine (within_any F 0 3 _).mono ?_
    rintro e w2 ⟨rfl, rfl⟩
    rw [d1.out]
    go_wp2_with fail
    refine (within_any T 0 3 _).mono ?_
    rintro e w2 ⟨rfl, rfl⟩
    rw [d2.out]
    go_wp2_with fail
    refine (within_any Q 0 49 _).mono ?_
    rintro e w2 ⟨rfl, rfl⟩
    rw [d3.out]
    go_wp2
    go_ret
    exact ⟨ret_int HC.out.symm, hBl⟩
  ·have d1 := Shut.mk (decide_eq_true h1)
   have d2 := Shut.mk (decide_eq_false h2)
   have HC : Shut (hdCode ⟨F, Q, T, L, B, K⟩ = 3) := ⟨by rw [hdCode, if_pos (fun hf => h2 hf.2.1)]⟩
   clear h1 h2
   go_enter Tryz.func64, Tryz.ntmps64
   go_wp2_with fail
   refine (within_any F 0 3 _).mono ?_
   rintro e w2 ⟨rfl, rfl⟩
   rw [d1.out]
   go_wp2_with fail
   refine (within_any T 0 3 _).mono ?_
   rintro e w2 ⟨rfl, rfl⟩
   rw [d2.out]
   go_wp2
   go_ret
   exact ⟨ret_int HC.out.symm, hBl⟩
 ·have d1 := Shut.mk (decide_eq_false h1)
  have HC : Shut (hdCode ⟨F, Q, T, L, B, K⟩ = 3) := ⟨by rw [hdCode, if_pos (fun hf => h1 hf.1)]⟩
  clear h1
  go_enter Tryz.func64, Tryz.ntmps64
  go_wp2_with fail
  refine (within_any F 0 3 _).mono ?_
  rintro e w2 ⟨rfl, rfl⟩
  rw [d1.out]
  go_wp2
  go_ret
  exact ⟨ret_int HC.out.symm, hBl⟩

def rcV (r : Rc) (da : Option Addr) (dc : Nat) (ca : Option Addr) (cc : Nat) : Value :=
 .agg #[.int .i64 r.k, .int .i64 r.p, .int .i64 r.n, .int .i64 r.y, .int .i64 r.h.F, .int .i64 r.h.Q, .int .i64 r.h.T, .int .i64 r.h.L, .int .i64 r.h.B, .int .i64 r.h.K, .int .i64 r.id, .slice da r.d.length dc, .slice ca r.c.length cc]

def splitQ (R : Act → World → Prop) (Q : Exit → Act → World → Prop) : Exit → Act → World → Prop
 | .normal, a, w => R a w
 | e, a, w => Q e a w

theorem wp_of_split {P : Program} {o : Oper} {a : Act} {w : World} {K : Act → World → Prop} {R : Act → World → Prop} {Q : Exit → Act → World → Prop} (hh : o.wp P a w K (splitQ R Q)) : o.wp P a w K Q := by
 unfold Oper.wp at *
 generalize (execOp a.eval o).run P w = r at *
 cases r with
 | ok n w' => cases n <;> exact hh
 | halt x w' => cases x <;> exact hh

theorem letsOut_of_split {R : Act → World → Prop} {Q : Exit → Act → World → Prop} (h : LetsOut (splitQ R Q)) : LetsOut Q := h

theorem wpList_split {P : Program} {ops : Array Oper} {R : Act → World → Prop} {Q : Exit → Act → World → Prop} (l2 : List Oper) (h2 : ∀ a w, R a w → wpList P ops Q l2 a w) :
  ∀ (l1 : List Oper) (a : Act) (w : World), wpList P ops (splitQ R Q) l1 a w → wpList P ops Q (l1 ++ l2) a w
 | [], a, w, h => h2 a w h
 | o :: rest, a, w, h => by
  rw [List.cons_append]
  unfold wpList at h ⊢
  split
  ·rename_i hw
   rw [if_pos hw] at h
   rcases h with h | ⟨h, h'⟩
   ·exact .inl (Oper.wp_mono (fun a w hh => wpList_split l2 h2 rest a w hh) (wp_of_split h))
   ·exact .inr ⟨h, letsOut_of_split h'⟩
  ·rename_i hw
   rw [if_neg hw] at h
   exact wpList_split l2 h2 rest _ w h

def puts (a : Act) (vs : List (Nat × Value)) : Act := { a with tmps := vs.foldl (fun t p => t.setIfInBounds p.1 p.2) a.tmps }

theorem part {P : Program} {ops : Array Oper} {Q : Exit → Act → World → Prop} {l : List Oper} {a : Act} {w : World} (k : Nat) (R : Act → Act → World → Prop)
  (h1 : wpList P ops (splitQ (R a) Q) (l.take k) a w) (h2 : ∀ a' w', R a a' w' → wpList P ops Q (l.drop k) a' w') : wpList P ops Q l a w := by
 have := wpList_split (l.drop k) h2 (l.take k) a w h1
 rwa [List.take_append_drop] at this

end Go.Proofs.YtakkajjoeimkdaaGreatDoor
