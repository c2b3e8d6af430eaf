import Derived.Test.YtpmgmddicbpgjaaDoorPart23
import Derived.Test.YtpmgmddicbpgjaaDoorPart18
import Derived.Test.YtpmgmddicbpgjaaDoorPart21
import Derived.Deep.AppendLies
import Derived.Test.YtpmgmddicbpgjaaDoorPart24
import Derived.Test.YtpmgmddicbpgjaaDoorPart25
/-
  Chapter 9: a bundle changed where it stands: take.
-/
namespace Go.Proofs.YtpmgmddicbpgjaaDoor
open Go.RowKit
set_option linter.unusedVariables false
set_option linter.unusedSimpArgs false
attribute [local go_sem ↓] Go.wp_at_zero Go.wp_at_succ

theorem newCells (W : World) {c : Array Value} {T : TypeId} {l : List Value} (h : c.toList = l) : ∀ j u, l[j]? = some u → ((W.alloc (.cells c T)).drew).cell? ((⟨W.heap.size, 0, none⟩ : Addr).add j) = some u := by
  intro j u hj
  subst h
  rw [Addr.add_lit, Nat.zero_add]
  exact cellB (w := W.alloc (.cells c T)) (by rw [heap_alloc_eq, if_pos rfl]) j u (by simpa using hj)

theorem tkB {W : World} {g : Nat} {a b : Value} (h : W.heap[g]? = some (.cells #[a, b] 87 (0, 0))) : W.cell? ⟨g, 0, none⟩ = some a ∧ W.cell? ⟨g, 1, none⟩ = some b := ⟨cellB h 0 _ rfl, cellB h 1 _ rfl⟩

/-- what a method that may let a row grow leaves -/
def GrowsR (B : Nat) (w : World) (g o : Nat) (pre post : List Value) (m : MKp) (z : Int) (k' : Kp) (w' : World) : Prop := Below B w w' ∧ (z = 0 → ∃ m' : MKp, m'.k = k' ∧ ChgR B w w' g o pre post m m')

/-- what is taken is one more in the row of what was taken -/
theorem take_done {B g o g1 cap : Nat} {w V U w' : World} {pre post : List Value} {m : MKp} {p y : Int} {sh : Int} (hN : NewM w B m) (hf : FarM g m) (hgr : ¬ growB m g) (hg : B ≤ g) (hgw : g < w.heap.size)
    (hwV : Below w.heap.size w V) (hVU : V.grownBy U (Value.slice m.ta m.k.tk.length m.tc).ownBlock) (hown : U.ownsRow B 87 2 (.slice (some ⟨g1, 0, none⟩) (m.k.tk.length + 1) cap) (m.k.tk.length + 1) (tkCells (m.k.tk ++ [(p, y)])))
    (hwh : (Value.slice m.ta m.k.tk.length m.tc).ownBlock = some g1 ∨ w.heap.size ≤ g1) (hat : At16 w' g o pre post ({ m with ta := some ⟨g1, 0, none⟩, tc := cap, k := { m.k with tk := m.k.tk ++ [(p, y)], sh := sh } } : MKp).cells) (hUw : U.grownBy w' (some g)) (hlen : m.k.tk.length < 40) :
    ChgR B w w' g o pre post m { m with ta := some ⟨g1, 0, none⟩, tc := cap, k := { m.k with tk := m.k.tk ++ [(p, y)], sh := sh } } := by
  have hg0 : m.ta = some ⟨g1, 0, none⟩ ∨ w.heap.size ≤ g1 := by
    rcases hwh with h | h
    · exact .inl (own_plain hN.own.2 h)
    · exact .inr h
  have hg1 : growB m g1 ∨ w.heap.size ≤ g1 := by
    rcases hg0 with h | h
    · exact .inl (.inr ⟨0, h⟩)
    · exact .inr h
  have hne : g1 ≠ g := fun e => by
    subst e
    rcases hg1 with h | h
    · exact hgr h
    · omega
  have hrest : ∀ k, k < w.heap.size → k ≠ g → ¬ growB m k → w'.heap[k]? = w.heap[k]? := fun k h1 h2 h3 => by
    have e1 := hwV.block k h1
    have hs := hwV.size
    have e2 := hVU.block k (by omega) (fun e => h3 (.inr ⟨0, own_plain hN.own.2 e.symm⟩))
    have e3 := hUw.block k (by have := hVU.size; omega) (fun e => h2 (Option.some.inj e))
    exact e3.trans (e2.trans e1)
  have hta : ∀ k o', m.ta = some ⟨k, o', none⟩ → growB m k := fun k o' e => .inr ⟨o', e⟩
  have hP : ∀ k, k < w.heap.size → ¬ (k = g ∨ ∃ o', m.ta = some ⟨k, o', none⟩) → w'.heap[k]? = w.heap[k]? := fun k h1 h2 => by
    have e1 := hwV.block k h1
    have hs := hwV.size
    have e2 := hVU.block k (by omega) (fun e => h2 (.inr ⟨0, own_plain hN.own.2 e.symm⟩))
    have e3 := hUw.block k (by have := hVU.size; omega) (fun e => h2 (.inl (Option.some.inj e)))
    exact e3.trans (e2.trans e1)
  have hk : ∀ a, ∀ xs : List Value, Lies w a xs → (xs ≠ [] → ∀ c o', a = some ⟨c, o', none⟩ → c ≠ g ∧ ∀ k o2, m.ta = some ⟨k, o2, none⟩ → c ≠ k) → Lies w' a xs := fun a xs hl hf' => by
    intro k u hu
    obtain ⟨b, off, e, hcell⟩ := hl k u hu
    refine ⟨b, off, e, ?_⟩
    have hb := World.block_lt_of_cell? w _ hcell
    have hne' : xs ≠ [] := fun e0 => by rw [e0] at hu; cases hu
    have h2 := hf' hne' b off e
    have := hP b (by simpa using hb) (fun e0 => by
      rcases e0 with e0 | ⟨o', e0⟩
      · exact h2.1 e0
      · exact h2.2 b o' e0 rfl)
    rw [← hcell]
    simp only [World.cell?, this]
  have hown' : w'.ownsRow B 87 2 (.slice (some ⟨g1, 0, none⟩) (m.k.tk.length + 1) cap) (m.k.tk.length + 1) (tkCells (m.k.tk ++ [(p, y)])) := by
    refine own_at hown (fun k e => hUw.block k (hown.lt k e).2 (fun e2 => ?_))
    obtain rfl := Option.some.inj e2
    simp only [Value.ownBlock, Option.some.injEq] at e
    exact hne e
  have hll : (m.k.tk ++ [(p, y)]).length = m.k.tk.length + 1 := by simp
  obtain ⟨s1, s2, s3, s4, s5⟩ := hN.sep
  have hcap := own_some hown'
  refine ⟨hat, ⟨⟨?_, ?_, fun z hz => ⟨?_, (hN.inn.ys z hz).2⟩, hN.inn.says, hcap.1⟩, ⟨hN.fits.c, hN.fits.y, ?_, hN.fits.cc, hN.fits.yc, ?_⟩, hN.ca, hN.ya, ?_, hN.ys, ⟨?_, ?_⟩, ?_⟩, ?_, ?_, hrest, hUw.os.trans (hVU.os.trans hwV.os), hUw.tape.trans (hVU.tape.trans hwV.tape), hUw.output.trans (hVU.output.trans hwV.output), Nat.le_trans hwV.size (Nat.le_trans hVU.size hUw.size)⟩
  · exact hk _ _ hN.inn.c (fun e c o' ec => ⟨hf.c (bs_ne e) c o' ec, fun k o2 ek => fun e0 => s3 (bs_ne e) k o2 c o' ek ec e0.symm⟩)
  · exact hk _ _ hN.inn.y (fun e c o' ec => ⟨hf.y (sy_ne e) c o' ec, fun k o2 ek => s1 c o' k o2 ec ek⟩)
  · exact hk _ _ (hN.inn.ys z hz).1 (fun e c o' ec => ⟨hf.ys z hz (fun e0 => e (by rw [e0]; rfl)) c o' ec, fun k o2 ek => s5 z hz (fun e0 => e (by rw [e0]; rfl)) c o' k o2 ec ek⟩)
  · show (m.k.tk ++ [(p, y)]).length ≤ maxLen
    rw [hll]; unfold maxLen; omega
  · show (m.k.tk ++ [(p, y)]).length ≤ cap
    rw [hll]; exact hcap.2
  · intro b o' e
    simp only [Option.some.injEq, Addr.mk.injEq] at e
    obtain ⟨rfl, _⟩ := e
    exact (hown'.lt _ rfl).1
  · refine own_at hN.own.1 (fun k e => hP k (hN.own.1.lt k e).2 (fun e0 => ?_))
    have ey := own_plain hN.own.1 e
    rcases e0 with e0 | ⟨o', e0⟩
    · exact hgr (.inl ⟨0, by rw [← e0]; exact ey⟩)
    · exact s1 k 0 k o' ey e0 rfl
  · show w'.ownsRow B _ 2 (.slice (some ⟨g1, 0, none⟩) (m.k.tk ++ [(p, y)]).length cap) (m.k.tk ++ [(p, y)]).length _
    rw [hll]
    exact hown'
  · have hcl : ∀ b b' o2, (some ⟨g1, 0, none⟩ : Option Addr) = some ⟨b', o2, none⟩ → (∀ k o2, m.ta = some ⟨k, o2, none⟩ → b ≠ k) → b < w.heap.size → b ≠ b' := fun b b' o2 e2 h1 h2 => by
      simp only [Option.some.injEq, Addr.mk.injEq] at e2
      obtain ⟨rfl, _⟩ := e2
      rcases hg0 with h | h
      · exact h1 _ _ h
      · omega
    refine ⟨fun b o1 b' o2 e1 e2 => ?_, fun hc => s2 hc, fun hc b o1 b' o2 e1 e2 => ?_, s4, fun z hz hd b o1 b' o2 e1 e2 => ?_⟩
    · exact hcl b b' o2 e2 (fun k o3 ek => s1 b o1 k o3 e1 ek) (hN.own.1.lt b (by rw [e1]; rfl)).2
    · exact fun e0 => hcl b' b o1 e1 (fun k o3 ek => fun e3 => s3 hc k o3 b' o2 ek e2 e3.symm) (lies_block hN.inn.c (bs_ne' hc) b' o2 e2) e0.symm
    · exact hcl b b' o2 e2 (fun k o3 ek => s5 z hz hd b o1 k o3 e1 ek) (symIn_lt (hN.inn.ys z hz) hd b o1 e1)
  · intro b hb h1 h2
    have hb1 : g1 ≠ b := fun e => by
      subst e
      rcases hg1 with h | h
      · exact h2 h
      · omega
    refine ⟨⟨h1.c, h1.y, h1.ys, fun _ a o' e => ?_⟩, fun e => ?_⟩
    · simp only [Option.some.injEq, Addr.mk.injEq] at e
      obtain ⟨rfl, _⟩ := e
      exact hb1
    · rcases e with ⟨o', e⟩ | ⟨o', e⟩
      · exact h2 (.inl ⟨o', e⟩)
      · simp only [Option.some.injEq, Addr.mk.injEq] at e
        exact hb1 e.1
  · intro b hb
    rcases hb with ⟨o', e⟩ | ⟨o', e⟩
    · exact .inl (.inl ⟨o', e⟩)
    · simp only [Option.some.injEq, Addr.mk.injEq] at e
      obtain ⟨rfl, _⟩ := e
      exact hg1

set_option maxHeartbeats 8000000 in
set_option maxRecDepth 8000 in
theorem take_any (B : Nat) (m : MKp) (r : Rc) (da : Option Addr) (dc : Nat) (ca : Option Addr) (cc : Nat) (g o : Nat) (pre post : List Value) (w : World) (h : At16 w g o pre post m.cells) (hN : NewM w B m) (hf : FarM g m) (hgr : ¬ growB m g) (hg : B ≤ g) (hi : 0 ≤ m.k.sh ∧ m.k.sh ≤ 64 ∧ 0 ≤ r.n ∧ r.n ≤ 1000000) :
    Calls Tryd.prog 34 #[.pointer (some ⟨g, o, none⟩), rcV r da dc ca cc] w fun e w' => e = .returned (.int .i64 (m.k.take r.p r.n r.y).1) ∧ Shut (GrowsR B w g o pre post m (m.k.take r.p r.n r.y).1 (m.k.take r.p r.n r.y).2 w') := by
  obtain ⟨i0, hii, hz0, hz1, hz2⟩ : ∃ i, Tryd.prog.info? 87 = some i ∧ i.zero = some (.agg #[.int .i64 0, .int .i64 0]) ∧ i.size = 2 ∧ i.bytes = 16 := by
    have h0 := info_cloneT
    cases hh : Tryd.prog.info? 87 with
    | none => rw [hh] at h0; cases h0
    | some i =>
      rw [hh] at h0
      simp only [Option.map_some, Option.some.injEq, Prod.mk.injEq] at h0
      exact ⟨i, rfl, h0.1, h0.2.1, h0.2.2⟩
  have hgw := h.lt
  obtain ⟨W, hW⟩ : ∃ W, w.alloc (.cells #[.int .i64 r.k, .int .i64 r.p, .int .i64 r.n, .int .i64 r.y, .int .i64 r.h.F, .int .i64 r.h.Q, .int .i64 r.h.T, .int .i64 r.h.L, .int .i64 r.h.B, .int .i64 r.h.K, .int .i64 r.id, .slice da r.d.length dc, .slice ca r.c.length cc] 40) = W := ⟨_, rfl⟩
  have hb : Below w.heap.size w W := by rw [← hW]; exact (Below.refl _ _).alloc (Nat.le_refl _) _
  have hk : W.heap[w.heap.size]? = some (.cells #[.int .i64 r.k, .int .i64 r.p, .int .i64 r.n, .int .i64 r.y, .int .i64 r.h.F, .int .i64 r.h.Q, .int .i64 r.h.T, .int .i64 r.h.L, .int .i64 r.h.B, .int .i64 r.h.K, .int .i64 r.id, .slice da r.d.length dc, .slice ca r.c.length cc] 40 (0, 0)) := by rw [← hW, heap_alloc_eq, if_pos rfl]
  have hsz : W.heap.size = w.heap.size + 1 := by rw [← hW]; simp
  obtain ⟨V, hV⟩ : ∃ V, W.alloc (.cells #[.int .i64 r.p, .int .i64 r.y] 87) = V := ⟨_, rfl⟩
  have hbV : Below w.heap.size w V := by rw [← hV]; exact hb.alloc hb.size _
  have hkV : V.heap[w.heap.size]? = some (.cells #[.int .i64 r.k, .int .i64 r.p, .int .i64 r.n, .int .i64 r.y, .int .i64 r.h.F, .int .i64 r.h.Q, .int .i64 r.h.T, .int .i64 r.h.L, .int .i64 r.h.B, .int .i64 r.h.K, .int .i64 r.id, .slice da r.d.length dc, .slice ca r.c.length cc] 40 (0, 0)) := by rw [← hV, heap_alloc_eq, if_neg (by omega)]; exact hk
  have htV : V.heap[w.heap.size + 1]? = some (.cells #[.int .i64 r.p, .int .i64 r.y] 87 (0, 0)) := by rw [← hV, heap_alloc_eq, if_pos hsz.symm]
  have hA := h.below hbV
  obtain ⟨b0, b1, b2, b3, b4, b5, b6, b7, b8, b9, b10, b11, b12⟩ := rcBox hk
  have HB := Shut.mk (And.intro hb (And.intro hbV (And.intro hkV (And.intro htV (And.intro hA (And.intro hN h))))))
  have HG := Shut.mk (And.intro hf (And.intro hgr (And.intro hg hgw)))
  have HW := Shut.mk (And.intro hW (And.intro hV hsz))
  clear hb hk hbV hkV htV hA h hN hW hV hsz hf hgr hg hgw
  have e1 : IntKind.i64.wrap (m.k.sh + r.n) = m.k.sh + r.n := by
    rw [IntKind.wrap_i64]; omega
  have bad : ∀ (z : Int) (k' : Kp) (u : World), z ≠ 0 → Below w.heap.size w u → Shut (GrowsR B w g o pre post m z k' u) := fun z k' u hz hu => ⟨hu.mono (by have := HG.out.2.2; omega), fun e => absurd e hz⟩
  unfold rcV
  go_enter Tryd.func34, Tryd.ntmps34
  go_upto_region 1 with fail
  rw [HW.out.1]
  go_upto_region 2 with fail
  rw [HW.out.2.1]
  rw [HW.out.2.2]
  clear b0 b1 b2 b3 b4 b5 b6 b7 b8 b9 b10 b11 b12
  obtain ⟨b0, b1, b2, b3, b4, b5, b6, b7, b8, b9, b10, b11, b12⟩ := rcBox HB.out.2.2.1
  obtain ⟨t0, t1⟩ := tkB HB.out.2.2.2.1
  have c9 := HB.out.2.2.2.2.1.cell 9 _ rfl
  have c13 := HB.out.2.2.2.2.1.cell 13 _ rfl
  have hbV := HB.out.2.1
  by_cases p1 : r.y = 0 ∨ r.n = 0 ∨ 64 < m.k.sh + r.n
  · have hr : m.k.take r.p r.n r.y = (3, m.k) := by unfold Kp.take; rw [if_pos p1]
    have HR := Shut.mk hr
    clear hr
    rcases eqDec r.y 0 with ⟨y1, y2, y3, y4⟩ | ⟨y1, y2, y3, y4⟩
    · clear p1
      have HY := Shut.mk y1
      clear y1 hi
      go_region
      all_goals
        go_wp2
        go_ret
        rw [HR.out]; exact ⟨rfl, bad _ _ _ (by show (3 : Int) ≠ 0; decide) hbV.drew⟩
    · rcases eqDec r.n 0 with ⟨n1, n2, n3, n4⟩ | ⟨n1, n2, n3, n4⟩
      · have HY := Shut.mk n1
        clear p1 y1 n1 hi
        go_region
        all_goals
          go_wp2
          go_ret
          rw [HR.out]; exact ⟨rfl, bad _ _ _ (by show (3 : Int) ≠ 0; decide) hbV.drew⟩
      · have q3 : 64 < m.k.sh + r.n := by
          rcases p1 with h | h | h
          · exact absurd h y1
          · exact absurd h n1
          · exact h
        clear p1 y1 n1 hi
        go_region
        all_goals
          go_wp2
          go_ret
          rw [HR.out]; exact ⟨rfl, bad _ _ _ (by show (3 : Int) ≠ 0; decide) hbV.drew⟩
  · have y2 : (r.y == 0) = false := by simp; omega
    have n2 : (r.n == 0) = false := by simp; omega
    have q3 : ¬ 64 < m.k.sh + r.n := by omega
    have q4 : m.k.sh + r.n ≤ 64 := by omega
    go_region
    all_goals go_upto_region 4 with fail
    have HP := Shut.mk p1
    clear p1 y2 n2 q3 q4 hi
    have hCT : ∀ u : World, Below V.heap.size V u → Calls Tryd.prog 54 #[.slice m.ta m.k.tk.length m.tc, .agg #[.int .i64 r.p, .int .i64 r.y]] u fun e w' => ∃ x, e = .returned x ∧ (∃ bq : Bool, x = .bool bq ∧ Shut (bq = decide ((r.p, r.y) ∈ m.k.tk)) ∧ Below V.heap.size V w') := fun u hu => by
      have hN' := HB.out.2.2.2.2.2.1
      refine (containsTk m.ta m.tc m.k.tk r.p r.y u ((hN'.inn.t.below hbV (Nat.le_refl _)).below hu (Nat.le_refl _)) hN'.fits.t).mono ?_
      rintro e w' ⟨rfl, hb'⟩
      exact ⟨_, rfl, _, rfl, ⟨rfl⟩, hu.trans (hb'.mono hu.size)⟩
    have HCT := Shut.mk hCT
    clear hCT
    have c13d : V.drew.drew.cell? ⟨g, o + 13, none⟩ = some (.slice m.ta m.k.tk.length m.tc) := c13
    have t0d : V.drew.drew.cell? ⟨w.heap.size + 1, 0, none⟩ = some (.int .i64 r.p) := t0
    have t1d : V.drew.drew.cell? ⟨w.heap.size + 1, 1, none⟩ = some (.int .i64 r.y) := t1
    go_region_law (refine step_call2 entersContTk rfl (.tmp 34) (.tmp 35) 44 87 rfl _ _ rfl rfl (HCT.out _ ((Below.refl _ V).drew.drew)) ?_; rintro _ wk ⟨bq, rfl, hbq, hbk⟩)
    all_goals
      have hbw := hbV.trans (hbk.mono hbV.size)
      have A2 := HB.out.2.2.2.2.1.below hbk
      have k2 := blkB HB.out.2.2.1 hbk
      have t2 := blkB HB.out.2.2.2.1 hbk
      clear b0 b1 b2 b3 b4 b5 b6 b7 b8 b9 b10 b11 b12 t0 t1 c9 c13 c13d t0d t1d hbV
      obtain ⟨b0, b1, b2, b3, b4, b5, b6, b7, b8, b9, b10, b11, b12⟩ := rcBox k2
      obtain ⟨t0, t1⟩ := tkB t2
      have c9 := A2.cell 9 _ rfl
      have c13 := A2.cell 13 _ rfl
      have f13 := A2.frz (o + 13)
      have H2 := Shut.mk (And.intro hbw (And.intro A2 (And.intro k2 t2)))
      clear A2 k2 t2 hbk
      by_cases p4 : (r.p, r.y) ∈ m.k.tk
      · have HR := Shut.mk (show m.k.take r.p r.n r.y = (6, m.k) from by unfold Kp.take; rw [if_neg HP.out, if_pos p4])
        obtain rfl : bq = true := by rw [hbq.out]; exact decide_eq_true p4
        clear p4
        go_wp2
        go_ret
        rw [HR.out]
        exact ⟨rfl, bad _ _ _ (by show (6 : Int) ≠ 0; decide) hbw⟩
      · obtain rfl : bq = false := by rw [hbq.out]; exact decide_eq_false p4
        by_cases p5 : 40 ≤ m.k.tk.length
        · have HR := Shut.mk (show m.k.take r.p r.n r.y = (2, m.k) from by unfold Kp.take; rw [if_neg HP.out, if_neg p4, if_pos p5])
          clear p4
          have l5 : (40 : Int) ≤ (m.k.tk.length : Int) := by omega
          go_wp2
          go_ret
          rw [HR.out]
          exact ⟨rfl, bad _ _ _ (by show (2 : Int) ≠ 0; decide) hbw⟩
        · have HR := Shut.mk (show m.k.take r.p r.n r.y = (0, { m.k with tk := m.k.tk ++ [(r.p, r.y)], sh := m.k.sh + r.n }) from by unfold Kp.take; rw [if_neg HP.out, if_neg p4, if_neg p5])
          clear p4
          have l5 : ¬ (40 : Int) ≤ (m.k.tk.length : Int) := by omega
          have l6 : m.k.tk.length < 40 := by omega
          go_upto_region 8 with fail
          have hN := HB.out.2.2.2.2.2.1
          have hown3 : ∀ ob : Obj, ((wk.alloc ob).drew).ownsRow B 87 2 (.slice m.ta m.k.tk.length m.tc) m.k.tk.length (tkCells m.k.tk) := fun ob => ownB (ownB (ownB hN.own.2 hbw) (by exact Below.refl _ _)) (((Below.refl _ _).alloc (Nat.le_refl _) ob).drew)
          have hNB : B ≤ wk.heap.size := by have := HG.out.2.2; have := hbw.size; omega
          have c13d : wk.drew.cell? ⟨g, o + 13, none⟩ = some (.slice m.ta m.k.tk.length m.tc) := c13
          have t0d : wk.drew.cell? ⟨w.heap.size + 1, 0, none⟩ = some (.int .i64 r.p) := t0
          have t1d : wk.drew.cell? ⟨w.heap.size + 1, 1, none⟩ = some (.int .i64 r.y) := t1
          have Y : ∀ ob : Obj, ((wk.alloc ob).drew).cell? ⟨g, o + 13, none⟩ = some (.slice m.ta m.k.tk.length m.tc) := fun ob => cellW (w := wk) c13 (((Below.refl _ _).alloc (Nat.le_refl _) ob).drew)
          go_region_law (refine step_append_lies _ rfl (.tmp 48) (.tmp 50) 44 rfl B 87 i0 (.agg #[.int .i64 0, .int .i64 0]) 2 16 Tryd.underlying44 hii hz0 hz1 hz2 rfl (by decide) (.slice m.ta m.k.tk.length m.tc) m.k.tk.length (tkCells m.k.tk) (by simp [Act.eval, Act.put]) (hown3 _) ⟨wk.heap.size, 0, none⟩ 1 1 [.int .i64 r.p, .int .i64 r.y] (by simp [Act.eval, Act.put]) rfl (newCells wk rfl) (fun u hu => List.all_eq_true.1 (show List.all [.int .i64 r.p, .int .i64 r.y] (fun v => v.oneCell') = true from rfl) u hu) (by decide) (by unfold maxLen; omega) (by omega) (by simp; omega) _ rfl ?_; intro g1 cap w4 hown4 hgrow hat hlt4; have hA4 := At16.blk H2.out.2.1 ((hgrow.block g (by have := H2.out.2.1.lt; simp; omega) (fun e => HG.out.2.1 (.inr ⟨0, own_plain hN.own.2 e.symm⟩))).trans ((((Below.refl _ wk).alloc (Nat.le_refl _) _).drew).block g H2.out.2.1.lt)); have d13 := hA4.cell 13 _ rfl; have e13 := hA4.frz (o + 13))
          all_goals
            have hwV : Below w.heap.size w (wk.alloc (.cells #[.int .i64 r.p, .int .i64 r.y] 87)).drew := (hbw.alloc hbw.size _).drew
            have hk4 : w4.heap[w.heap.size]? = wk.heap[w.heap.size]? := (hgrow.block _ (by have := hbw.size; have := (Array.getElem?_eq_some_iff.1 H2.out.2.2.1).1; simp; omega) (fun e => by have := (hN.own.2.lt _ e.symm).2; omega)).trans ((((Below.refl _ wk).alloc (Nat.le_refl _) _).drew).block _ (Array.getElem?_eq_some_iff.1 H2.out.2.2.1).1)
            have n2 := (rcBox (hk4.trans H2.out.2.2.1)).2.2.1
            obtain ⟨V2, hV2⟩ : ∃ V2, w4.setCell ⟨g, o + 13, none⟩ (.slice (some ⟨g1, 0, none⟩) (m.k.tk.length + 1) cap) = V2 := ⟨_, rfl⟩
            have hgne : w.heap.size ≠ g := by have := HG.out.2.2.2; omega
            have HA : Shut (At16 V2 g o pre post (m.cells.set 13 (.slice (some ⟨g1, 0, none⟩) (m.k.tk.length + 1) cap)) ∧ w4.grownBy V2 (some g)) := by
              rw [← hV2]
              exact ⟨At16.set hA4 13 (by show 13 < 16; omega) _, grown_set (grown_refl _ _) _ _⟩
            have v2 : V2.cell? ⟨w.heap.size, 2, none⟩ = some (.int .i64 r.n) := by rw [← hV2]; exact cellOff n2 hgne
            have D : Shut (∀ u : World, At16 u g o pre post ((m.cells.set 13 (.slice (some ⟨g1, 0, none⟩) (m.k.tk.length + 1) cap)).set 9 (.int .i64 (m.k.sh + r.n))) → w4.grownBy u (some g) → GrowsR B w g o pre post m 0 { m.k with tk := m.k.tk ++ [(r.p, r.y)], sh := m.k.sh + r.n } u) := ⟨fun u h1 h2 => by
              have hC := take_done (p := r.p) (y := r.y) (sh := m.k.sh + r.n) hN HG.out.1 HG.out.2.1 HG.out.2.2.1 HG.out.2.2.2 hwV hgrow (by rw [tkCells_append]; exact hown4) (by rcases hat with h | h; exact .inl h; exact .inr (by rw [h]; exact hwV.size)) (h1.conv (by simp only [MKp.cells, List.length_append, List.length_singleton]; rfl)) h2 l6
              exact ⟨hC.below hN HG.out.2.2.1 (by have := HG.out.2.2; omega), fun _ => ⟨_, rfl, hC⟩⟩⟩
            rw [hV2]
            clear hV2 hwV hk4 n2 hA4 d13 e13 hown4 hgrow hat hlt4 hown3 hNB c13d t0d t1d Y b0 b1 b2 b3 b4 b5 b6 b7 b8 b9 b10 b11 b12 t0 t1 c9 c13 f13 hN hbq
            have c9 := HA.out.1.cell 9 _ rfl
            have f9 := HA.out.1.frz (o + 9)
            go_upto_region 9 with fail
            go_region
            all_goals
              go_wp2
              go_ret
              rw [HR.out]
              exact ⟨rfl, ⟨D.out _ (At16.drew (At16.set HA.out.1 9 (by show 9 < 16; omega) _)) (grown_drew (grown_set HA.out.2 _ _))⟩⟩

end Go.Proofs.YtpmgmddicbpgjaaDoor

/-
  Chapter 9: a place in a box, its list in new memory; keep's insert.
-/
namespace Go.Proofs.YtpmgmddicbpgjaaDoor
open Go.RowKit
set_option linter.unusedVariables false
set_option linter.unusedSimpArgs false
attribute [local go_sem ↓] Go.wp_at_zero Go.wp_at_succ

/-- a call of three arguments, as one step of a region that draws its order -/
theorem step_call3 {f : FuncId} {ops : Array Oper} {o : Oper} {a : Act} {w : World} {K : Act → World → Prop} {Q : Exit → Act → World → Prop} {E : Prop} {R : Value → World → Prop} (eg : ∀ args w, (callFunc f args).run Tryd.prog w = .ok (.enter f args) w) (hgd : o.guard = none) (arg arg2 arg3 : Operand) (ty ty2 ty3 : TypeId)
    (ho : o.op = .call { callee := .value (.func f), args := #[arg, arg2, arg3], argTypes := #[ty, ty2, ty3] }) (v v2 v3 : Value) (hv : a.eval arg = v) (hv2 : a.eval arg2 = v2) (hv3 : a.eval arg3 = v3) (hc : Calls Tryd.prog f #[v, v2, v3] w fun e w' => ∃ x, e = .returned x ∧ R x w') (h : ∀ x w', R x w' → K (a.put o.dst x) w') :
    if Region.wanted o (yielded ops a.tmps) = true then Oper.wp Tryd.prog o a w K Q else E := by
  rw [if_pos (by simp [Region.wanted, hgd])]
  have hrun : (execOp a.eval o).run Tryd.prog w = .ok (.enter f #[v, v2, v3]) w := by
    have hf : a.eval (.func f) = .func (.func f) #[] #[] := rfl
    simp [execOp, ho, resolve, hf, eg, go_sem, invoke]
    refine ⟨?_, ?_, ?_⟩
    · cases arg <;> simpa [Act.eval] using hv
    · cases arg2 <;> simpa [Act.eval] using hv2
    · cases arg3 <;> simpa [Act.eval] using hv3
  unfold Oper.wp
  rw [hrun, Oper.upon_enter]
  refine hc.mono ?_
  rintro e w' ⟨x, rfl, hr⟩
  exact h x w' hr

theorem allocDrewK (w : World) (o : Obj) : ((w.alloc o).drew).heap[w.heap.size]? = some o := by
  show (w.alloc o).heap[w.heap.size]? = some o
  rw [heap_alloc_eq, if_pos rfl]

theorem entersInsert3 : ∀ args w, (callFunc 59 args).run Tryd.prog w = .ok (.enter 59 args) w := enters_of Tryd.func59 (by kernel_rfl) rfl

/-- a place at work: in a box of its own, its list in new memory -/
structure PlAt (w : World) (B gp : Nat) (me tm sq : Int) (l : List Kp) (L : List MKp) (p : Option Addr) (cp : Nat) : Prop where
  box : w.heap[gp]? = some (.cells #[.int .i64 me, .slice p l.length cp, .int .i64 tm, .int .i64 sq] 25 (0, 0))
  pl : PlNew B w l L p cp
  lo : B ≤ gp
  ne : ∀ g o, p = some ⟨g, o, none⟩ → g ≠ gp
  off : ∀ m ∈ L, FarM gp m ∧ ¬ growB m gp

theorem PlAt.below {w w' : World} {B gp : Nat} {me tm sq : Int} {l : List Kp} {L : List MKp} {p : Option Addr} {cp : Nat} (h : PlAt w B gp me tm sq l L p cp) (hb : Below w.heap.size w w') : PlAt w' B gp me tm sq l L p cp := ⟨blkB h.box hb, h.pl.below hb, h.lo, h.ne, h.off⟩

theorem PlAt.lt {w : World} {B gp : Nat} {me tm sq : Int} {l : List Kp} {L : List MKp} {p : Option Addr} {cp : Nat} (h : PlAt w B gp me tm sq l L p cp) : gp < w.heap.size := (Array.getElem?_eq_some_iff.1 h.box).1

theorem PlNew.off {B b : Nat} {w w' : World} {l : List Kp} {L : List MKp} {p : Option Addr} {cp : Nat} (h : PlNew B w l L p cp) (hne : ∀ g o, p = some ⟨g, o, none⟩ → g ≠ b) (hoff : ∀ m ∈ L, FarM b m ∧ ¬ growB m b) (hk : ∀ k, k ≠ b → w'.heap[k]? = w.heap[k]?) : PlNew B w' l L p cp :=
  ⟨h.says, own_at h.own (fun g e => hk g (hne g 0 (own_plain h.own e))), fun m hm => ⟨(h.new m hm).1.keep (fun b' => b' = b) (fun b' e => by subst e; exact hoff m hm) (fun k _ e => hk k e), (h.new m hm).2⟩, h.far⟩

/-- a write into the place's box leaves its list as it is -/
theorem PlAt.box' {w w' : World} {B gp : Nat} {me tm sq me' tm' sq' : Int} {l : List Kp} {L : List MKp} {p : Option Addr} {cp : Nat} (h : PlAt w B gp me tm sq l L p cp) (hb : w'.heap[gp]? = some (.cells #[.int .i64 me', .slice p l.length cp, .int .i64 tm', .int .i64 sq'] 25 (0, 0))) (hk : ∀ k, k ≠ gp → w'.heap[k]? = w.heap[k]?) :
    PlAt w' B gp me' tm' sq' l L p cp := by
  refine ⟨hb, ⟨h.pl.says, own_at h.pl.own (fun g e => hk g (h.ne g 0 (own_plain h.pl.own e))), fun m hm => ⟨?_, (h.pl.new m hm).2⟩, h.pl.far⟩, h.lo, h.ne, h.off⟩
  exact (h.pl.new m hm).1.keep (fun b => b = gp) (fun b e => by subst e; exact h.off m hm) (fun k _ e => hk k e)

theorem insK_map (L : List MKp) (i : Nat) (x : MKp) : (L.take i ++ x :: L.drop i).map MKp.k = insK (L.map MKp.k) i x.k := by
  simp [insK]

/-- a bundle put among the others -/
theorem PlNew.ins {B : Nat} {w w' : World} {l : List Kp} {L : List MKp} {p : Option Addr} {cp g' c' i : Nat} {x : MKp} (h : PlNew B w l L p cp) (hi : i ≤ L.length) (hx : NewM w B x) (hxg : ∀ b, ¬ growB x b) (hxf : ∀ b, ((∃ o, p = some ⟨b, o, none⟩) ∨ ∃ m ∈ L, growB m b) → FarM b x)
    (hown : w'.ownsRow B 46 16 (.slice (some ⟨g', 0, none⟩) (l.length + 1) c') (l.length + 1) (kpCells (L.take i ++ x :: L.drop i))) (hgr : w.grownBy w' (Value.slice p l.length cp).ownBlock) (hw : p = some ⟨g', 0, none⟩ ∨ w.heap.size ≤ g') :
    PlNew B w' (insK l i x.k) (L.take i ++ x :: L.drop i) (some ⟨g', 0, none⟩) c' := by
  have hlen : (insK l i x.k).length = l.length + 1 := by
    have : L.length = l.length := by rw [← h.says, List.length_map]
    simp [insK]; omega
  have hmem : ∀ m ∈ L, NewM w' B m := fun m hm => by
    have h1 := h.new m hm
    refine h1.1.keep (fun b => ∃ o, p = some ⟨b, o, none⟩) (fun b ⟨o, e⟩ => h1.2 b o e) (fun k hk hP => hgr.block k hk (fun e => hP ⟨0, own_plain h.own e.symm⟩))
  have hxw : NewM w' B x := hx.keep (fun b => ∃ o, p = some ⟨b, o, none⟩) (fun b e => ⟨hxf b (.inl e), hxg b⟩) (fun k hk hP => hgr.block k hk (fun e => hP ⟨0, own_plain h.own e.symm⟩))
  have hsplit : ∀ m, m ∈ L.take i ++ x :: L.drop i → m = x ∨ m ∈ L := fun m hm => by
    rcases List.mem_append.1 hm with hm | hm
    · exact .inr (List.mem_of_mem_take hm)
    · rcases List.mem_cons.1 hm with hm | hm
      · exact .inl hm
      · exact .inr (List.mem_of_mem_drop hm)
  have hfg : ∀ m, m ∈ L → FarM g' m ∧ ¬ growB m g' := fun m hm => by
    have h1 := h.new m hm
    rcases hw with e | e
    · exact h1.2 g' 0 e
    · exact ⟨farM_old h1.1.inn e, fun e2 => by have := (h1.1.grow_lt e2).2; omega⟩
  have hfx : FarM g' x := by
    rcases hw with e | e
    · exact hxf g' (.inl ⟨0, e⟩)
    · exact farM_old hx.inn e
  -- where an element of the new list stands in the old one
  have hidx : ∀ (j : Nat) (m : MKp), (L.take i ++ x :: L.drop i)[j]? = some m → (j = i ∧ m = x) ∨ ∃ j', L[j']? = some m ∧ ((j < i ∧ j' = j) ∨ (i < j ∧ j' + 1 = j)) := fun j m hj => by
    rcases Nat.lt_trichotomy j i with h1 | h1 | h1
    · rw [List.getElem?_append_left (by rw [List.length_take]; omega), List.getElem?_take, if_pos h1] at hj
      exact .inr ⟨j, hj, .inl ⟨h1, rfl⟩⟩
    · subst h1
      rw [List.getElem?_append_right (by rw [List.length_take]; omega), List.length_take, Nat.min_eq_left hi, Nat.sub_self] at hj
      exact .inl ⟨rfl, (Option.some.inj hj).symm⟩
    · rw [List.getElem?_append_right (by rw [List.length_take]; omega), List.length_take, Nat.min_eq_left hi] at hj
      obtain ⟨t, rfl⟩ : ∃ t, j = i + (t + 1) := ⟨j - i - 1, by omega⟩
      rw [show i + (t + 1) - i = t + 1 by omega, List.getElem?_cons_succ, List.getElem?_drop] at hj
      exact .inr ⟨i + t, hj, .inr ⟨h1, by omega⟩⟩
  refine ⟨?_, by rw [hlen]; exact hown, fun m hm => ?_, fun j k a b hjk hj hk c hc => ?_⟩
  · rw [insK_map, h.says]
  · rcases hsplit m hm with rfl | hm
    · refine ⟨hxw, fun g o e => ?_⟩
      simp only [Option.some.injEq, Addr.mk.injEq] at e
      obtain ⟨rfl, _⟩ := e
      exact ⟨hfx, hxg _⟩
    · refine ⟨hmem m hm, fun g o e => ?_⟩
      simp only [Option.some.injEq, Addr.mk.injEq] at e
      obtain ⟨rfl, _⟩ := e
      exact hfg m hm
  · rcases hidx j a hj with ⟨rfl, rfl⟩ | ⟨j', hj', e1⟩
    · exact absurd hc (hxg c)
    · rcases hidx k b hk with ⟨rfl, rfl⟩ | ⟨k', hk', e2⟩
      · exact ⟨hxf c (.inr ⟨a, List.mem_of_getElem? hj', hc⟩), hxg c⟩
      · exact h.far j' k' a b (by omega) hj' hk' c hc

set_option maxHeartbeats 8000000 in
set_option maxRecDepth 8000 in
theorem insertPl_any (B gp : Nat) (me tm sq : Int) (l : List Kp) (L : List MKp) (p : Option Addr) (cp : Nat) (x : MKp) (w : World) (hP : PlAt w B gp me tm sq l L p cp) (hn : l.length < 12) (hx : NewM w B x) (hxg : ∀ b, ¬ growB x b) (hxf : ∀ b, (b = gp ∨ (∃ o, p = some ⟨b, o, none⟩) ∨ ∃ m ∈ L, growB m b) → FarM b x) :
    Calls Tryd.prog 48 #[.pointer (some ⟨gp, 0, none⟩), .agg #[.int .i64 x.k.h.F, .int .i64 x.k.h.Q, .int .i64 x.k.h.T, .int .i64 x.k.h.L, .int .i64 x.k.h.B, .int .i64 x.k.h.K, .bool x.k.own, .slice x.ca x.k.c.length x.cc, .slice x.ya x.ys.length x.yc, .int .i64 x.k.sh, .int .i64 x.k.gv, .int .i64 x.k.tw, .int .i64 x.k.tr, .slice x.ta x.k.tk.length x.tc, .bool x.k.dl, .bool x.k.pg]] w fun e w' => ∃ (g' c' : Nat), e = .returned (.pointer (some ⟨g', placeOf l x.k.h * 16, none⟩)) ∧ Shut (PlAt w' B gp me tm sq (insK l (placeOf l x.k.h) x.k) (L.take (placeOf l x.k.h) ++ x :: L.drop (placeOf l x.k.h)) (some ⟨g', 0, none⟩) c' ∧ Below B w w' ∧ ∀ k, k < w.heap.size → k ≠ gp → (∀ o, p ≠ some ⟨k, o, none⟩) → w'.heap[k]? = w.heap[k]?) := by
  obtain ⟨n, hnl⟩ : ∃ n, l.length = n := ⟨_, rfl⟩
  have hLn : L.length = n := by rw [← hnl, ← hP.pl.says, List.length_map]
  have hBw : B ≤ w.heap.size := by have := hP.lo; have := hP.lt; omega
  obtain ⟨W, hW⟩ : ∃ W, w.alloc (.cells #[.int .i64 x.k.h.F, .int .i64 x.k.h.Q, .int .i64 x.k.h.T, .int .i64 x.k.h.L, .int .i64 x.k.h.B, .int .i64 x.k.h.K, .bool x.k.own, .slice x.ca x.k.c.length x.cc, .slice x.ya x.ys.length x.yc, .int .i64 x.k.sh, .int .i64 x.k.gv, .int .i64 x.k.tw, .int .i64 x.k.tr, .slice x.ta x.k.tk.length x.tc, .bool x.k.dl, .bool x.k.pg] 46) = W := ⟨_, rfl⟩
  have hb : Below w.heap.size w W := by rw [← hW]; exact (Below.refl _ _).alloc (Nat.le_refl _) _
  have hk : W.heap[w.heap.size]? = some (.cells #[.int .i64 x.k.h.F, .int .i64 x.k.h.Q, .int .i64 x.k.h.T, .int .i64 x.k.h.L, .int .i64 x.k.h.B, .int .i64 x.k.h.K, .bool x.k.own, .slice x.ca x.k.c.length x.cc, .slice x.ya x.ys.length x.yc, .int .i64 x.k.sh, .int .i64 x.k.gv, .int .i64 x.k.tw, .int .i64 x.k.tr, .slice x.ta x.k.tk.length x.tc, .bool x.k.dl, .bool x.k.pg] 46 (0, 0)) := by rw [← hW, heap_alloc_eq, if_pos rfl]
  have hPW := hP.below hb
  have hI := indexIns p cp L x.k.h w.heap.size W (by obtain ⟨_, _, e1, e2, _⟩ := own_gen hPW.pl.own; simp only [Value.slice.injEq] at e1; obtain ⟨rfl, _, _⟩ := e1; exact e2) (by rw [hLn]; unfold maxLen; omega) ⟨cellB hk 0 _ rfl, cellB hk 1 _ rfl, cellB hk 2 _ rfl, cellB hk 3 _ rfl, cellB hk 4 _ rfl, cellB hk 5 _ rfl⟩
  rw [hLn] at hI
  have hpo := placeOf_idx L x.k.h
  rw [hP.pl.says, hLn] at hpo
  generalize hat : idxP (fun Y : MKp => x.k.h.ahead Y.k.h) L = at0 at hI hpo
  have hle : at0 < (n : Int) := by
    rw [← hat]
    unfold idxP
    split
    · omega
    · omega
  obtain ⟨b0, b1, b2, b3⟩ := plBox hPW.box
  rw [hnl] at b1
  -- where it belongs
  obtain ⟨i, hi, hin⟩ : ∃ i : Nat, placeOf l x.k.h = i ∧ i ≤ n := ⟨_, rfl, by rw [hpo]; split <;> omega⟩
  rw [hi]
  have hii : at0 < 0 ∧ i = n ∨ ¬ at0 < 0 ∧ at0 = (i : Int) := by
    rw [← hi, hpo]
    split
    · exact .inl ⟨by assumption, rfl⟩
    · exact .inr ⟨by assumption, by omega⟩
  have HI := Shut.mk (And.intro hpo (And.intro hi hin))
  have HN := Shut.mk hnl
  have HW := Shut.mk hW
  have H := Shut.mk (And.intro hPW (And.intro hk (And.intro hb (And.intro hx (And.intro hBw (And.intro hnl hLn))))))
  clear hW hk hb hP hPW hx hLn hBw hat
  go_enter Tryd.func48, Tryd.ntmps48
  go_upto_region 1 with fail
  rw [HW.out]
  clear HW
  go_wp2_with fail
  refine hI.mono ?_
  rintro e W1 ⟨rfl, hb1⟩
  have hP1 := H.out.1.below hb1
  have hk1 := blkB H.out.2.1 hb1
  clear hI b0 b1 b2 b3
  obtain ⟨b0, b1, b2, b3⟩ := plBox hP1.box
  rw [hnl] at b1
  clear hpo hi hnl
  have f1 := frzB hP1.box 1
  have hIns : ∀ (u : World) (vb : Nat), Below W1.heap.size W1 u → W1.heap.size ≤ vb → u.heap[vb]? = some (.cells #[.int .i64 x.k.h.F, .int .i64 x.k.h.Q, .int .i64 x.k.h.T, .int .i64 x.k.h.L, .int .i64 x.k.h.B, .int .i64 x.k.h.K, .bool x.k.own, .slice x.ca x.k.c.length x.cc, .slice x.ya x.ys.length x.yc, .int .i64 x.k.sh, .int .i64 x.k.gv, .int .i64 x.k.tw, .int .i64 x.k.tr, .slice x.ta x.k.tk.length x.tc, .bool x.k.dl, .bool x.k.pg] 46 (0, 0)) → Calls Tryd.prog 59 #[.slice p n cp, .int .i64 (i : Int), .slice (some ⟨vb, 0, none⟩) 1 1] u fun e w' => ∃ v, e = .returned v ∧ (∃ g' c' : Nat, v = .slice (some ⟨g', 0, none⟩) (n + 1) c' ∧ Shut (w'.ownsRow B 46 16 (.slice (some ⟨g', 0, none⟩) (n + 1) c') (n + 1) (kpCells (L.take i ++ x :: L.drop i)) ∧ W1.grownBy w' (Value.slice p n cp).ownBlock ∧ (p = some ⟨g', 0, none⟩ ∨ W1.heap.size ≤ g'))) := fun u vb hu hvb hk => by
    have hown := hP1.pl.own
    rw [H.out.2.2.2.2.2.1] at hown
    refine (insertK_any B p n cp vb i L x u (by have := H.out.2.2.2.2.2.1; omega) HI.out.2.2 (by have := H.out.2.2.2.2.1; have := H.out.2.2.1.size; have := hb1.size; have := hu.size; omega) (ownB hown hu) (fun g o e => by have := (hown.lt g (by rw [e]; rfl)).2; omega) hk).mono ?_
    rintro e w' ⟨g', c', rfl, HH⟩
    refine ⟨_, rfl, g', c', rfl, ⟨HH.out.1, ⟨HH.out.2.1.os.trans hu.os, HH.out.2.1.tape.trans hu.tape, HH.out.2.1.output.trans hu.output, Nat.le_trans hu.size HH.out.2.1.size, fun k h1 h2 => (HH.out.2.1.block k (Nat.lt_of_lt_of_le h1 hu.size) h2).trans (hu.block k h1)⟩, HH.out.2.2.imp id (fun h => Nat.le_trans hu.size h)⟩⟩
  have HIns := Shut.mk hIns
  have H1 := Shut.mk (And.intro hP1 (And.intro hk1 hb1))
  have z1 : W1.drew.cell? ⟨gp, 1, none⟩ = some (.slice p n cp) := b1
  have Y : ∀ ob : Obj, ((W1.alloc ob).drew).cell? ⟨gp, 1, none⟩ = some (.slice p n cp) := fun ob => cellW (w := W1) b1 (((Below.refl _ _).alloc (Nat.le_refl _) ob).drew)
  obtain ⟨x0, x1, x2, x3, x4, x5, x6, x7, x8, x9, x10, x11, x12, x13, x14, x15⟩ := kpCellsOf (show W1.drew.heap[w.heap.size]? = _ from hk1)
  clear hIns hP1 hk1 hb1
  rcases hii with ⟨hz, hq⟩ | ⟨hz, rfl⟩
  · have hq' : n = i := hq.symm
    subst hq'
    go_upto_region 4 with fail
    go_region_law (refine step_call3 entersInsert3 rfl (.tmp 23) (.tmp 24) (.tmp 26) 23 3 23 rfl _ _ _ rfl rfl rfl (HIns.out _ W1.heap.size (((Below.refl _ W1).alloc (Nat.le_refl _) _).drew) (Nat.le_refl _) (allocDrewK _ _)) ?_; rintro _ wj ⟨g', c', rfl, HJ⟩; have hgx : wj.heap[gp]? = _ := (HJ.out.2.1.block gp H1.out.1.lt (fun e => H1.out.1.ne gp 0 (own_plain H1.out.1.pl.own (by rw [HN.out]; exact e.symm)) rfl)).trans H1.out.1.box; have j1 := (plBox hgx).2.1; have g1 := frzB hgx 1)
    all_goals
      obtain ⟨V, hV, hbV, hoV, hBV⟩ := setK4 wj gp 25 _ _ _ _ (.slice (some ⟨g', 0, none⟩) (n + 1) c') hgx
      have R : Shut (PlAt V B gp me tm sq (insK l n x.k) (L.take n ++ x :: L.drop n) (some ⟨g', 0, none⟩) c' ∧ Below B w V ∧ ∀ k, k < w.heap.size → k ≠ gp → (∀ o, p ≠ some ⟨k, o, none⟩) → V.heap[k]? = w.heap[k]?) := by
        have hpl := H1.out.1.pl
        have hown := HJ.out.1
        have hgr := HJ.out.2.1
        have hBW : Below w.heap.size w W1 := H.out.2.2.1.trans (H1.out.2.2.mono H.out.2.2.1.size)
        have hx1 : NewM W1 B x := H.out.2.2.2.1.below hBW
        have hn1 := hpl.ins (i := n) (g' := g') (c' := c') (by rw [H.out.2.2.2.2.2.2]; exact HI.out.2.2) hx1 hxg (fun b hb => hxf b (.inr hb)) (by rw [HN.out]; exact hown) (by rw [HN.out]; exact hgr) HJ.out.2.2
        have hil : (insK l n x.k).length = n + 1 := by
          have h1 := congrArg List.length (insK_map L n x)
          have h2 := hn1.own.1
          rw [kpCells_length] at h2
          rw [hpl.says, List.length_map] at h1
          have h3 := hown.1
          rw [kpCells_length] at h3
          omega
        have hlt := H1.out.1.lt
        refine ⟨⟨by rw [hil]; exact hbV, hn1.off (b := gp) (fun g o e => ?_) (fun m hm => ?_) hoV, H1.out.1.lo, fun g o e => ?_, fun m hm => ?_⟩, hBV B w H1.out.1.lo ((hBW.mono H.out.2.2.2.2.1).trans ⟨hgr.os, hgr.tape, hgr.output, hgr.size, fun k hk => hgr.block k (by have := H.out.2.2.2.2.1; have := hBW.size; omega) (fun e => by have := (hpl.own.lt k (by rw [HN.out]; exact e.symm)).1; omega)⟩), fun k h1 h2 h3 => (hoV k h2).trans ((hgr.block k (by have := hBW.size; omega) (fun e => h3 0 (own_plain hpl.own (by rw [HN.out]; exact e.symm)))).trans (hBW.block k h1))⟩
        all_goals try (
          simp only [Option.some.injEq, Addr.mk.injEq] at e
          obtain ⟨rfl, _⟩ := e
          rcases HJ.out.2.2 with h | h
          · exact H1.out.1.ne _ 0 h
          · omega)
        all_goals
          rcases List.mem_append.1 hm with hm | hm
          · exact H1.out.1.off m (List.mem_of_mem_take hm)
          · rcases List.mem_cons.1 hm with rfl | hm
            · exact ⟨hxf gp (.inl rfl), hxg gp⟩
            · exact H1.out.1.off m (List.mem_of_mem_drop hm)
      rw [hV]
      clear hV hoV hBV hgx j1 g1 z1 Y x0 x1 x2 x3 x4 x5 x6 x7 x8 x9 x10 x11 x12 x13 x14 x15 HJ b0 b1 b2 b3 f1
      obtain ⟨b0, b1, b2, b3⟩ := plBox hbV
      go_wp2
      go_ret
      exact ⟨g', c', rfl, R⟩
  · go_upto_region 4 with fail
    go_region_law (refine step_call3 entersInsert3 rfl (.tmp 23) (.tmp 24) (.tmp 26) 23 3 23 rfl _ _ _ rfl rfl rfl (HIns.out _ W1.heap.size (((Below.refl _ W1).alloc (Nat.le_refl _) _).drew) (Nat.le_refl _) (allocDrewK _ _)) ?_; rintro _ wj ⟨g', c', rfl, HJ⟩; have hgx : wj.heap[gp]? = _ := (HJ.out.2.1.block gp H1.out.1.lt (fun e => H1.out.1.ne gp 0 (own_plain H1.out.1.pl.own (by rw [HN.out]; exact e.symm)) rfl)).trans H1.out.1.box; have j1 := (plBox hgx).2.1; have g1 := frzB hgx 1)
    all_goals
      obtain ⟨V, hV, hbV, hoV, hBV⟩ := setK4 wj gp 25 _ _ _ _ (.slice (some ⟨g', 0, none⟩) (n + 1) c') hgx
      have R : Shut (PlAt V B gp me tm sq (insK l i x.k) (L.take i ++ x :: L.drop i) (some ⟨g', 0, none⟩) c' ∧ Below B w V ∧ ∀ k, k < w.heap.size → k ≠ gp → (∀ o, p ≠ some ⟨k, o, none⟩) → V.heap[k]? = w.heap[k]?) := by
        have hpl := H1.out.1.pl
        have hown := HJ.out.1
        have hgr := HJ.out.2.1
        have hBW : Below w.heap.size w W1 := H.out.2.2.1.trans (H1.out.2.2.mono H.out.2.2.1.size)
        have hx1 : NewM W1 B x := H.out.2.2.2.1.below hBW
        have hn1 := hpl.ins (i := i) (g' := g') (c' := c') (by rw [H.out.2.2.2.2.2.2]; exact HI.out.2.2) hx1 hxg (fun b hb => hxf b (.inr hb)) (by rw [HN.out]; exact hown) (by rw [HN.out]; exact hgr) HJ.out.2.2
        have hil : (insK l i x.k).length = n + 1 := by
          have h1 := congrArg List.length (insK_map L i x)
          have h2 := hn1.own.1
          rw [kpCells_length] at h2
          rw [hpl.says, List.length_map] at h1
          have h3 := hown.1
          rw [kpCells_length] at h3
          omega
        have hlt := H1.out.1.lt
        refine ⟨⟨by rw [hil]; exact hbV, hn1.off (b := gp) (fun g o e => ?_) (fun m hm => ?_) hoV, H1.out.1.lo, fun g o e => ?_, fun m hm => ?_⟩, hBV B w H1.out.1.lo ((hBW.mono H.out.2.2.2.2.1).trans ⟨hgr.os, hgr.tape, hgr.output, hgr.size, fun k hk => hgr.block k (by have := H.out.2.2.2.2.1; have := hBW.size; omega) (fun e => by have := (hpl.own.lt k (by rw [HN.out]; exact e.symm)).1; omega)⟩), fun k h1 h2 h3 => (hoV k h2).trans ((hgr.block k (by have := hBW.size; omega) (fun e => h3 0 (own_plain hpl.own (by rw [HN.out]; exact e.symm)))).trans (hBW.block k h1))⟩
        all_goals try (
          simp only [Option.some.injEq, Addr.mk.injEq] at e
          obtain ⟨rfl, _⟩ := e
          rcases HJ.out.2.2 with h | h
          · exact H1.out.1.ne _ 0 h
          · omega)
        all_goals
          rcases List.mem_append.1 hm with hm | hm
          · exact H1.out.1.off m (List.mem_of_mem_take hm)
          · rcases List.mem_cons.1 hm with rfl | hm
            · exact ⟨hxf gp (.inl rfl), hxg gp⟩
            · exact H1.out.1.off m (List.mem_of_mem_drop hm)
      rw [hV]
      clear hV hoV hBV hgx j1 g1 z1 Y x0 x1 x2 x3 x4 x5 x6 x7 x8 x9 x10 x11 x12 x13 x14 x15 HJ b0 b1 b2 b3 f1
      obtain ⟨b0, b1, b2, b3⟩ := plBox hbV
      go_wp2
      go_ret
      exact ⟨g', c', rfl, R⟩

end Go.Proofs.YtpmgmddicbpgjaaDoor
