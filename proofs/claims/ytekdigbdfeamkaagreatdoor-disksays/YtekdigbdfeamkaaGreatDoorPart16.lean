import Derived.Test.YtekdigbdfeamkaaGreatDoorPart15
import Derived.Maps.AppendAt
/-
  Chapter 8: package disk's read: the records of the lines at the begin of a text.
-/
namespace Go.Proofs.YtekdigbdfeamkaaGreatDoor
open Go.RowKit
set_option linter.unusedVariables false
set_option linter.unusedSimpArgs false

/-- a record in memory -/
structure MRec where
  r : Rc
  da : Option Addr
  dc : Nat
  ca : Option Addr
  cc : Nat

def MRec.val (m : MRec) : Value := rcV m.r m.da m.dc m.ca m.cc

def MRec.cells (m : MRec) : List Value := [.int .i64 m.r.k, .int .i64 m.r.p, .int .i64 m.r.n, .int .i64 m.r.y, .int .i64 m.r.h.F, .int .i64 m.r.h.Q, .int .i64 m.r.h.T, .int .i64 m.r.h.L, .int .i64 m.r.h.B, .int .i64 m.r.h.K, .int .i64 m.r.id, .slice m.da m.r.d.length m.dc, .slice m.ca m.r.c.length m.cc]

def recCells (l : List MRec) : List Value := l.flatMap MRec.cells

theorem recCells_length (l : List MRec) : (recCells l).length = 13 * l.length := by
  induction l with
  | nil => rfl
  | cons y l ih => rw [recCells, List.flatMap_cons, List.length_append]; show 13 + (recCells l).length = _; rw [ih, List.length_cons]; omega

theorem recCells_append (a b : List MRec) : recCells (a ++ b) = recCells a ++ recCells b := by simp [recCells]

theorem recCells_at : ∀ (l : List MRec) (i j : Nat) (y : MRec) (v : Value), l[i]? = some y → y.cells[j]? = some v → (recCells l)[13 * i + j]? = some v
  | [], i, j, y, v, h, _ => by simp at h
  | z :: l, 0, j, y, v, h, hv => by
    simp at h
    subst h
    have hj : j < 13 := by
      rcases Nat.lt_or_ge j 13 with h | h
      · exact h
      · rw [List.getElem?_eq_none (by show 13 ≤ j; exact h)] at hv; cases hv
    rw [recCells, List.flatMap_cons, Nat.mul_zero, Nat.zero_add, List.getElem?_append_left (by show j < 13; exact hj)]
    exact hv
  | z :: l, i + 1, j, y, v, h, hv => by
    have ih := recCells_at l i j y v (by simpa using h) hv
    rw [recCells, List.flatMap_cons, List.getElem?_append_right (by show 13 ≤ _; omega)]
    have e : 13 * (i + 1) + j - z.cells.length = 13 * i + j := by show 13 * (i + 1) + j - 13 = _; omega
    rw [e]
    exact ih

/-- its bytes are there -/
def RecIn (w : World) (m : MRec) : Prop := Lies w m.da (bs m.r.d) ∧ Lies w m.ca (bs m.r.c)

theorem RecIn.below {w w' : World} {m : MRec} (h : RecIn w m) (hb : Below w.heap.size w w') : RecIn w' m := ⟨h.1.below hb (Nat.le_refl _), h.2.below hb (Nat.le_refl _)⟩

/-- a block that isn't the row's -/
def OffRow (v : Value) (a : Option Addr) (l : List UInt8) : Prop := l ≠ [] → ∀ b o, a = some ⟨b, o, none⟩ → v.ownBlock ≠ some b

def RecOff (v : Value) (m : MRec) : Prop := OffRow v m.da m.r.d ∧ OffRow v m.ca m.r.c

theorem lies_grownO {w w' : World} {row : Option Nat} {a : Option Addr} {l : List UInt8} (hg : w.grownBy w' row) (h : Lies w a (bs l)) (ho : l ≠ [] → ∀ b o, a = some ⟨b, o, none⟩ → row ≠ some b) : Lies w' a (bs l) := by
  intro k u hu
  obtain ⟨b, off, e, hc⟩ := h k u hu
  refine ⟨b, off, e, ?_⟩
  have h1 := World.block_lt_of_cell? w _ hc
  have h2 : l ≠ [] := by intro e; subst e; simp [bs] at hu
  have h3 : w'.heap[b]? = w.heap[b]? := hg.block b h1 (fun e' => ho h2 b off e e'.symm)
  rw [← hc]
  simp only [World.cell?, h3]

theorem RecIn.grown {w w' : World} {v : Value} {m : MRec} (h : RecIn w m) (ho : RecOff v m) (hg : w.grownBy w' v.ownBlock) : RecIn w' m :=
  ⟨lies_grownO hg h.1 ho.1, lies_grownO hg h.2 ho.2⟩

theorem OffRow.next {w : World} {v v' : Value} {a : Option Addr} {l : List UInt8} (h : OffRow v a l) (hl : Lies w a (bs l)) (hv : v'.ownBlock = v.ownBlock ∨ v'.ownBlock = some w.heap.size) : OffRow v' a l := by
  intro hne b o e
  rcases hv with hv | hv
  · rw [hv]; exact h hne b o e
  · rw [hv]
    intro e'
    have h1 := hl.lt e 0 (by rw [bs_length]; exact List.length_pos_iff.2 hne)
    have h2 := World.block_lt_of_cell? w _ h1
    simp at e' h2
    omega

/-- its bytes are in new memory -/
def RecNew (B : Nat) (m : MRec) : Prop := (∀ b o, m.da = some ⟨b, o, none⟩ → B ≤ b) ∧ ∀ b o, m.ca = some ⟨b, o, none⟩ → B ≤ b

/-- how far the lines are read, in memory -/
def RdD (w wr : World) (v : Value) (l : List UInt8) (sz : Nat) : Prop :=
  ∃ L : List MRec, LogAt 200 l (L.map MRec.r) sz ∧ wr.ownsRow w.heap.size 33 13 v L.length (recCells L) ∧ (∀ y ∈ L, RecIn wr y ∧ RecOff v y ∧ RecNew w.heap.size y) ∧ Below w.heap.size w wr

/-- what read leaves -/
def ReadD (B : Nat) (l : List UInt8) (e : Ending) (w' : World) : Prop :=
  ∃ (L : List MRec) (p : Option Addr) (cp : Nat), e = .returned (.tuple #[.slice p L.length cp, .int .i64 ((linesL 200 l).2.1 : Int), .int .i64 (linesL 200 l).2.2]) ∧ L.map MRec.r = (linesL 200 l).1 ∧ L.length ≤ cp ∧ Lies w' p (recCells L) ∧ (∀ y ∈ L, RecIn w' y ∧ RecNew B y) ∧ (∀ b o, p = some ⟨b, o, none⟩ → B ≤ b)

theorem own_recs {w : World} {B n : Nat} {e : TypeId} {v : Value} {l : List MRec} (h : w.ownsRow B e 13 v n (recCells l)) : ∃ a cap, v = .slice a n cap ∧ Lies w a (recCells l) ∧ n ≤ cap := by
  have hn : n = l.length := by have := h.1; rw [recCells_length] at this; omega
  rcases h.2 with ⟨rfl, h0⟩ | ⟨g, cap, cur, rfl, hg, hc, h1, h2, h3, htake⟩
  · subst h0
    obtain rfl : l = [] := List.length_eq_zero_iff.1 hn.symm
    exact ⟨none, 0, rfl, Lies.nil _ _, Nat.le_refl _⟩
  · refine ⟨some ⟨g, 0, none⟩, cap, rfl, ?_, h1⟩
    have h4 := Lies.of_block hc
    intro k u hu
    refine h4 k u ?_
    have hk : k < n * 13 := by
      rcases Nat.lt_or_ge k (recCells l).length with h5 | h5
      · rw [recCells_length] at h5; omega
      · rw [List.getElem?_eq_none h5] at hu; cases hu
    rw [← htake, List.getElem?_take, if_pos hk] at hu
    exact hu

theorem infoRec : (Tryz.prog.info? 33).map (fun i => (i.zero, i.size, i.bytes)) = some (some (rcV rc0 none 0 none 0), 13, 136) := by kernel_rfl

/-- the lines end here -/
theorem ReadD.stop {w wr w2 : World} {l : List UInt8} {sz : Nat} {L : List MRec} {p1 : Option Addr} {c1 : Nat} {z : Int} (hI : LogAt 200 l (L.map MRec.r) sz ∧ wr.ownsRow w.heap.size 33 13 (.slice p1 L.length c1) L.length (recCells L) ∧ (∀ y ∈ L, RecIn wr y ∧ RecOff (.slice p1 L.length c1) y ∧ RecNew w.heap.size y) ∧ Below w.heap.size w wr)
    (hlp : Lies wr p1 (recCells L)) (hpc : L.length ≤ c1) (hb : Below wr.heap.size wr w2) (he : linesL (200 - (L.map MRec.r).length) (l.drop sz) = ([], 0, z)) : Below w.heap.size w w2 ∧ ReadD w.heap.size l (.returned (.tuple #[.slice p1 L.length c1, .int .i64 (sz : Int), .int .i64 z])) w2 := by
  have hE := hI.1.stop he
  refine ⟨hI.2.2.2.trans (hb.mono hI.2.2.2.size), L, p1, c1, ?_, ?_, hpc, hlp.below hb (Nat.le_refl _), fun y hy => ⟨(hI.2.2.1 y hy).1.below hb, (hI.2.2.1 y hy).2.2⟩, fun b o e => (hI.2.1.lt b (by rw [e]; rfl)).1⟩
  · rw [hE]
  · rw [hE]

theorem RdD.step {w wr wA w4 : World} {v v' : Value} {l : List UInt8} {sz : Nat} {L : List MRec} {y : MRec} {a r : List UInt8} (hI : LogAt 200 l (L.map MRec.r) sz ∧ wr.ownsRow w.heap.size 33 13 v L.length (recCells L) ∧ (∀ y ∈ L, RecIn wr y ∧ RecOff v y ∧ RecNew w.heap.size y) ∧ Below w.heap.size w wr)
    (hbA : Below wr.heap.size wr wA) (hs : l.drop sz = a ++ 10 :: r) (ha : (10 : UInt8) ∉ a) (hp : pCode a = 0) (hx : readL a = some y.r) (hm : L.length < 200) (hyA : RecIn wA y) (hfd : ∀ b o, y.da = some ⟨b, o, none⟩ → wr.heap.size ≤ b) (hfc : ∀ b o, y.ca = some ⟨b, o, none⟩ → wr.heap.size ≤ b)
    (hown' : w4.ownsRow w.heap.size 33 13 v' (L.length + 1) (recCells L ++ y.cells)) (hg : wA.grownBy w4 v.ownBlock) (hvv : v'.ownBlock = v.ownBlock ∨ v'.ownBlock = some wA.heap.size) : RdD w w4 v' l (sz + (a.length + 1)) := by
  obtain ⟨hlog, hown, hall, hbr⟩ := hI
  have hoff : RecOff v y := ⟨fun _ b o e e' => by have := hfd b o e; have := (hown.lt b e').2; omega, fun _ b o e e' => by have := hfc b o e; have := (hown.lt b e').2; omega⟩
  refine ⟨L ++ [y], ?_, ?_, ?_, ?_⟩
  · rw [List.map_append]
    exact hlog.next hs ha hp hx (by rw [List.length_map]; exact hm)
  · rw [recCells_append, List.length_append]
    have e : recCells [y] = y.cells := by simp [recCells]
    rw [e]
    exact hown'
  · intro u hu
    rcases List.mem_append.1 hu with hu | hu
    · have h1 := (hall u hu).1.below hbA
      have h2 := (hall u hu).2.1
      exact ⟨h1.grown h2 hg, ⟨h2.1.next h1.1 hvv, h2.2.next h1.2 hvv⟩, (hall u hu).2.2⟩
    · obtain rfl : u = y := by simpa using hu
      exact ⟨hyA.grown hoff hg, ⟨hoff.1.next hyA.1 hvv, hoff.2.next hyA.2 hvv⟩, fun b o e => Nat.le_trans hbr.size (hfd b o e), fun b o e => Nat.le_trans hbr.size (hfc b o e)⟩
  · have h1 := hbr.trans (hbA.mono hbr.size)
    exact h1.grown hg h1.size (fun k hk => (hown.lt k hk).1)

set_option maxHeartbeats 2000000 in
set_option maxRecDepth 8000 in
theorem readD_any (p : Option Addr) (cp : Nat) (l : List UInt8) (w : World) (hn : l.length ≤ 120000) (hcap : l.length ≤ cp) (h : Lies w p (bs l)) (hL : LaidN w) :
    Calls Tryz.prog 22 #[.slice p l.length cp] w fun e w' => Below w.heap.size w w' ∧ ReadD w.heap.size l e w' := by
  obtain ⟨i0, hii, hz0, hz1, hz2⟩ := info_parts infoRec
  have H0 : Shut (RdD w w (.slice none 0 0) l 0) := ⟨[], LogAt.start 200 l, World.ownsRow_nil _ _ _ _, fun y hy => absurd hy (by simp), Below.refl _ _⟩
  obtain ⟨n, hln⟩ : ∃ n, l.length = n := ⟨_, rfl⟩
  have HLN := Shut.mk hln
  rw [hln] at hn hcap ⊢
  clear hln
  go_enter Tryz.func22, Tryz.ntmps22
  go_wp2_with fail
  go_loopw [2, 3] (fun v m wr => ∃ sz : Nat, sz ≤ n ∧ m = .int .i64 sz ∧ Shut (RdD w wr v l sz)) (fun _ m _ => n - (intOf m).toNat)
  case atStart => exact ⟨0, Nat.zero_le _, rfl, H0⟩
  case round =>
    clear H0
    obtain ⟨sz, hsz, rfl, hI⟩ := hrel
    obtain ⟨L, hlog, hown, hall, hbr⟩ := hI.out
    have HI := Shut.mk (And.intro hlog (And.intro hown (And.intro hall hbr)))
    obtain ⟨p1, c1, rfl, hlp, hpc⟩ := own_recs hown
    by_cases hlt : sz < n
    · obtain ⟨b0, o0, rfl⟩ := h.some (k := 0) (by rw [bs_length, HLN.out]; omega)
      have hls : Lies wr (some ⟨b0, o0 + sz, none⟩) (bs (l.drop sz)) := by
        refine Lies.mk fun k hk => ?_
        rw [bs_length, List.length_drop, HLN.out] at hk
        have h1 := (h.below hbr (Nat.le_refl _)).at (k := sz + k) (u := .int .u8 ((l[sz + k]'(by rw [HLN.out]; omega)).toNat : Int)) (bs_get l _ (by rw [HLN.out]; omega))
        rw [Nat.add_assoc, h1]
        simp [bs]
      have hdl : (l.drop sz).length = n - sz := by rw [List.length_drop, HLN.out]
      have hLr := hL.below hbr
      have hR := readLine_any ⟨b0, o0 + sz, none⟩ (cp - sz) (l.drop sz) wr (by omega) (by omega) hls hLr
      have HDL := Shut.mk hdl
      rw [hdl] at hR
      have hne : l.drop sz ≠ [] := by intro e; rw [e] at hdl; simp at hdl; omega
      have hcs : ¬ cp = sz := by omega
      have HNE := Shut.mk hne
      have HLP := Shut.mk hlp
      clear hI hlog hown hall hls hdl hne hlp hLr
      go_wp2_with fail
      refine hR.mono ?_
      rintro e w1 ⟨hb1, hR1⟩
      clear hR
      rcases hR1 with ⟨hno, rfl⟩ | ⟨a, r, ha, hl, hp, rfl⟩ | ⟨a, r, x, da, dc, ca, cc, ha, hl, hp, hx, rfl, hld, hlc, hfd, hfc⟩
      · have HE : Shut (linesL (200 - (L.map MRec.r).length) (l.drop sz) = ([], 0, 9)) := ⟨by rw [linesL_none hno, if_neg HNE.out]⟩
        clear hno
        simp only [rcV, rc0, List.length_nil]
        go_upto_region 3 with fail
        generalize hW2 : w1.alloc (.cells #[.int .i64 0, .int .i64 0, .int .i64 0, .int .i64 0, .int .i64 0, .int .i64 0, .int .i64 0, .int .i64 0, .int .i64 0, .int .i64 0, .int .i64 0, .slice none 0 0, .slice none 0 0] 33) = w2
        have hb2 : Below w1.heap.size w1 w2 := by rw [← hW2]; exact (Below.refl _ _).alloc (Nat.le_refl _) _
        have hb12 := hb1.trans (hb2.mono hb1.size)
        have F := Shut.mk (ReadD.stop HI.out HLP.out hpc hb12 HE.out)
        clear hW2 hb2 hb12 hb1 HE
        go_wp2
        refine bodyPost_ret (v := .tuple #[.slice p1 L.length c1, .int .i64 (sz : Int), .int .i64 9]) (by simp [results, Tryz.results22, go_sem]) rfl ?_
        exact F.out
      · have HE : Shut (linesL (200 - (L.map MRec.r).length) (l.drop sz) = ([], 0, pCode a)) := ⟨by rw [hl, linesL_bad r ha hp]⟩
        have bz : (pCode a != 0) = true := by simpa using hp
        clear hp hl ha
        generalize pCode a = z at bz HE ⊢
        simp only [rcV, rc0, List.length_nil]
        go_upto_region 3 with fail
        generalize hW2 : w1.alloc (.cells #[.int .i64 0, .int .i64 0, .int .i64 0, .int .i64 0, .int .i64 0, .int .i64 0, .int .i64 0, .int .i64 0, .int .i64 0, .int .i64 0, .int .i64 0, .slice none 0 0, .slice none 0 0] 33) = w2
        have hb2 : Below w1.heap.size w1 w2 := by rw [← hW2]; exact (Below.refl _ _).alloc (Nat.le_refl _) _
        have hb12 := hb1.trans (hb2.mono hb1.size)
        have F := Shut.mk (ReadD.stop HI.out HLP.out hpc hb12 HE.out)
        clear hW2 hb2 hb12 hb1 HE
        go_wp2
        refine bodyPost_ret (v := .tuple #[.slice p1 L.length c1, .int .i64 (sz : Int), .int .i64 z]) (by simp [results, Tryz.results22, go_sem]) rfl ?_
        exact F.out
      · by_cases h200 : L.length = 200
        · have HE : Shut (linesL (200 - (L.map MRec.r).length) (l.drop sz) = ([], 0, 2)) := ⟨by rw [List.length_map, h200, Nat.sub_self, hl, linesL_many r ha hp]⟩
          have h200' : (L.length : Int) = 200 := by omega
          clear hp hl ha hx hfd hfc hld hlc
          simp only [rcV, rc0, List.length_nil]
          go_upto_region 3 with fail
          generalize hW2 : w1.alloc (.cells #[.int .i64 x.k, .int .i64 x.p, .int .i64 x.n, .int .i64 x.y, .int .i64 x.h.F, .int .i64 x.h.Q, .int .i64 x.h.T, .int .i64 x.h.L, .int .i64 x.h.B, .int .i64 x.h.K, .int .i64 x.id, .slice da x.d.length dc, .slice ca x.c.length cc] 33) = w2
          have hb2 : Below w1.heap.size w1 w2 := by rw [← hW2]; exact (Below.refl _ _).alloc (Nat.le_refl _) _
          have hb12 := hb1.trans (hb2.mono hb1.size)
          have F := Shut.mk (ReadD.stop HI.out HLP.out hpc hb12 HE.out)
          clear hW2 hb2 hb12 hb1 HE
          go_wp2
          refine bodyPost_ret (v := .tuple #[.slice p1 L.length c1, .int .i64 (sz : Int), .int .i64 2]) (by simp [results, Tryz.results22, go_sem]) rfl ?_
          exact F.out
        · have hL200 : L.length < 200 := by
            have := HI.out.1.2.1
            rw [List.length_map] at this
            omega
          have h200' : ¬ (L.length : Int) = 200 := by omega
          have hal : sz + (a.length + 1) ≤ n := by
            have h1 := HDL.out
            rw [hl, List.length_append, List.length_cons] at h1
            omega
          have HX := Shut.mk (And.intro hl (And.intro ha (And.intro hp (And.intro hx (And.intro hfd hfc)))))
          clear hp hl ha hx hfd hfc
          obtain ⟨m, hm⟩ : ∃ m, a.length + 1 = m := ⟨_, rfl⟩
          rw [hm] at hal ⊢
          have HM := Shut.mk hm
          clear hm
          simp only [rcV, rc0, List.length_nil]
          go_upto_region 3 with fail
          generalize hW2 : w1.alloc (.cells #[.int .i64 x.k, .int .i64 x.p, .int .i64 x.n, .int .i64 x.y, .int .i64 x.h.F, .int .i64 x.h.Q, .int .i64 x.h.T, .int .i64 x.h.L, .int .i64 x.h.B, .int .i64 x.h.K, .int .i64 x.id, .slice da x.d.length dc, .slice ca x.c.length cc] 33) = w2
          have hb2 : Below w1.heap.size w1 w2 := by rw [← hW2]; exact (Below.refl _ _).alloc (Nat.le_refl _) _
          have hb12 := hb1.trans (hb2.mono hb1.size)
          have hq2 : w2.heap[w1.heap.size]? = some (.cells #[.int .i64 x.k, .int .i64 x.p, .int .i64 x.n, .int .i64 x.y, .int .i64 x.h.F, .int .i64 x.h.Q, .int .i64 x.h.T, .int .i64 x.h.L, .int .i64 x.h.B, .int .i64 x.h.K, .int .i64 x.id, .slice da x.d.length dc, .slice ca x.c.length cc] 33 (0, 0)) := by rw [← hW2, heap_alloc_eq, if_pos rfl]
          have hown2 := ownB HI.out.2.1 hb12
          replace hld := hld.below hb2 (Nat.le_refl _)
          replace hlc := hlc.below hb2 (Nat.le_refl _)
          clear hW2 hb2 hb1
          have q0 : w2.cell? ⟨w1.heap.size, 0, none⟩ = some (.int .i64 x.k) := cellB hq2 0 _ rfl
          have q1 : w2.cell? ⟨w1.heap.size, 1, none⟩ = some (.int .i64 x.p) := cellB hq2 1 _ rfl
          have q2 : w2.cell? ⟨w1.heap.size, 2, none⟩ = some (.int .i64 x.n) := cellB hq2 2 _ rfl
          have q3 : w2.cell? ⟨w1.heap.size, 3, none⟩ = some (.int .i64 x.y) := cellB hq2 3 _ rfl
          have q4 : w2.cell? ⟨w1.heap.size, 4, none⟩ = some (.int .i64 x.h.F) := cellB hq2 4 _ rfl
          have q5 : w2.cell? ⟨w1.heap.size, 5, none⟩ = some (.int .i64 x.h.Q) := cellB hq2 5 _ rfl
          have q6 : w2.cell? ⟨w1.heap.size, 6, none⟩ = some (.int .i64 x.h.T) := cellB hq2 6 _ rfl
          have q7 : w2.cell? ⟨w1.heap.size, 7, none⟩ = some (.int .i64 x.h.L) := cellB hq2 7 _ rfl
          have q8 : w2.cell? ⟨w1.heap.size, 8, none⟩ = some (.int .i64 x.h.B) := cellB hq2 8 _ rfl
          have q9 : w2.cell? ⟨w1.heap.size, 9, none⟩ = some (.int .i64 x.h.K) := cellB hq2 9 _ rfl
          have q10 : w2.cell? ⟨w1.heap.size, 10, none⟩ = some (.int .i64 x.id) := cellB hq2 10 _ rfl
          have q11 : w2.cell? ⟨w1.heap.size, 11, none⟩ = some (.slice da x.d.length dc) := cellB hq2 11 _ rfl
          have q12 : w2.cell? ⟨w1.heap.size, 12, none⟩ = some (.slice ca x.c.length cc) := cellB hq2 12 _ rfl
          have hsz2 := hb12.size
          have hszr := hbr.size
          go_wp2_with (first | (at_builtin; refine wpList_append_own_at _ rfl _ _ 39 rfl w.heap.size 33 i0 (rcV rc0 none 0 none 0) 13 136 Tryz.underlying39 hii hz0 hz1 hz2 rfl (by decide) _ _ _ rfl (hown2.alloc _) ⟨w2.heap.size, 0, none⟩ 1 1 [.int .i64 x.k, .int .i64 x.p, .int .i64 x.n, .int .i64 x.y, .int .i64 x.h.F, .int .i64 x.h.Q, .int .i64 x.h.T, .int .i64 x.h.L, .int .i64 x.h.B, .int .i64 x.h.K, .int .i64 x.id, .slice da x.d.length dc, .slice ca x.c.length cc] rfl rfl ?c1 ?c2 ?c3 ?c4 ?c5 ?_) | fail)
          case c1 =>
            intro j u hj
            rw [Addr.add_lit, Nat.zero_add]
            exact cellB (by rw [heap_alloc_eq, if_pos rfl]) j u (by simpa using hj)
          case c2 => exact fun u hu => List.all_eq_true.1 (show List.all [.int .i64 x.k, .int .i64 x.p, .int .i64 x.n, .int .i64 x.y, .int .i64 x.h.F, .int .i64 x.h.Q, .int .i64 x.h.T, .int .i64 x.h.L, .int .i64 x.h.B, .int .i64 x.h.K, .int .i64 x.id, .slice da x.d.length dc, .slice ca x.c.length cc] (fun v => v.oneCell') = true from rfl) u hu
          case c3 => unfold maxLen; omega
          case c4 => omega
          case c5 => simp; omega
          intro v' w4 hown' hgrow _ hvv
          have hbA := hb12.alloc hsz2 (.cells #[.int .i64 x.k, .int .i64 x.p, .int .i64 x.n, .int .i64 x.y, .int .i64 x.h.F, .int .i64 x.h.Q, .int .i64 x.h.T, .int .i64 x.h.L, .int .i64 x.h.B, .int .i64 x.h.K, .int .i64 x.id, .slice da x.d.length dc, .slice ca x.c.length cc] 33)
          have R := Shut.mk (RdD.step (y := ⟨x, da, dc, ca, cc⟩) HI.out hbA HX.out.1 HX.out.2.1 HX.out.2.2.1 HX.out.2.2.2.1 hL200 ⟨hld.alloc _, hlc.alloc _⟩ HX.out.2.2.2.2.1 HX.out.2.2.2.2.2 hown' hgrow (by rw [show (w2.alloc (.cells #[.int .i64 x.k, .int .i64 x.p, .int .i64 x.n, .int .i64 x.y, .int .i64 x.h.F, .int .i64 x.h.Q, .int .i64 x.h.T, .int .i64 x.h.L, .int .i64 x.h.B, .int .i64 x.h.K, .int .i64 x.id, .slice da x.d.length dc, .slice ca x.c.length cc] 33)).heap.size = w2.heap.size + 1 from by simp]; exact hvv))
          rw [HM.out] at R
          clear hown' hgrow hvv hown2 hbA hld hlc hq2 q0 q1 q2 q3 q4 q5 q6 q7 q8 q9 q10 q11 q12
          go_wp2
          go_roundw
          case rel => exact ⟨sz + m, hal, by go_num, R⟩
          case measure => have := HM.out; simp [intOf]; omega
    · have HE : Shut (linesL (200 - (L.map MRec.r).length) (l.drop sz) = ([], 0, 0)) := ⟨by rw [List.drop_eq_nil_of_le (by rw [HLN.out]; omega), linesL_nil]⟩
      have F := Shut.mk (ReadD.stop HI.out hlp hpc (Below.refl _ _) HE.out)
      clear hI hlog hown hall hlp
      go_wp2
      refine bodyPost_ret (v := .tuple #[.slice p1 L.length c1, .int .i64 (sz : Int), .int .i64 0]) (by simp [results, Tryz.results22, go_sem]) rfl ?_
      exact F.out

end Go.Proofs.YtekdigbdfeamkaaGreatDoor

/-
  Chapter 8: package disk's Check and Same.
-/
namespace Go.Proofs.YtekdigbdfeamkaaGreatDoor
open Go.RowKit
set_option linter.unusedVariables false
set_option linter.unusedSimpArgs false

/-- what Check says of a disk -/
def dkCode (s v : List UInt8) : Int := if 60000 < s.length + v.length then 2 else (linesL 200 s).2.2

theorem cellsD {W : World} {g : Nat} {a b : Value} (h : W.heap[g]? = some (.cells #[a, b] 24 (0, 0))) : W.cell? ⟨g, 0, none⟩ = some a ∧ W.cell? ⟨g, 1, none⟩ = some b ∧ W.frozen? ⟨g, 0, none⟩ = false ∧ W.frozen? ⟨g, 1, none⟩ = false :=
  ⟨cellB h 0 _ rfl, cellB h 1 _ rfl, by simp [World.frozen?, h], by simp [World.frozen?, h]⟩

set_option maxRecDepth 4000 in
theorem sameD_any (sa : Option Addr) (sc : Nat) (wa : Option Addr) (wc : Nat) (s v : List UInt8) (sa' : Option Addr) (sc' : Nat) (wa' : Option Addr) (wc' : Nat) (s' v' : List UInt8) (w : World) (h1 : Lies w sa (bs s)) (h2 : Lies w wa (bs v)) (h3 : Lies w sa' (bs s')) (h4 : Lies w wa' (bs v')) :
    Calls Tryz.prog 11 #[dkV sa s.length sc wa v.length wc, dkV sa' s'.length sc' wa' v'.length wc'] w fun e w' => e = .returned (.bool (decide (s = s' ∧ v = v'))) ∧ Below w.heap.size w w' := by
  obtain ⟨W, hW⟩ : ∃ W, (w.alloc (.cells #[.slice sa s.length sc, .slice wa v.length wc] 24)).alloc (.cells #[.slice sa' s'.length sc', .slice wa' v'.length wc'] 24) = W := ⟨_, rfl⟩
  have hBW : Below w.heap.size w W := by rw [← hW]; exact ((Below.refl _ _).alloc (Nat.le_refl _) _).alloc (by simp) _
  have hb1 : W.heap[w.heap.size]? = some (.cells #[.slice sa s.length sc, .slice wa v.length wc] 24 (0, 0)) := by rw [← hW, heap_alloc_eq, if_neg (by simp), heap_alloc_eq, if_pos rfl]
  have hb2 : W.heap[w.heap.size + 1]? = some (.cells #[.slice sa' s'.length sc', .slice wa' v'.length wc'] 24 (0, 0)) := by rw [← hW, heap_alloc_eq, if_pos (by simp)]
  obtain ⟨c0, c1, _, _⟩ := cellsD hb1
  obtain ⟨d0, d1, _, _⟩ := cellsD hb2
  have hE1 := noteBytes_any sa sa' sc sc' s s' (h1.below hBW (Nat.le_refl _)) (h3.below hBW (Nat.le_refl _))
  have hE2 := noteBytes_any wa wa' wc wc' v v' (h2.below hBW (Nat.le_refl _)) (h4.below hBW (Nat.le_refl _))
  clear h1 h2 h3 h4
  simp only [dkV]
  go_enter Tryz.func11, Tryz.ntmps11
  go_wp2_with fail
  refine hE1.mono ?_
  rintro e _ ⟨rfl, rfl⟩
  by_cases hs : s = s'
  · rw [decide_eq_true hs]
    have hr : Shut (decide (s = s' ∧ v = v') = decide (v = v')) := ⟨by rw [decide_eq_decide]; exact ⟨fun h => h.2, fun h => ⟨hs, h⟩⟩⟩
    clear hs hE1
    generalize decide (v = v') = D at hE2 hr
    go_wp2_with fail
    refine hE2.mono ?_
    rintro e _ ⟨rfl, rfl⟩
    clear hE2
    go_wp2
    go_ret
    exact ⟨(by rw [hr.out]; rfl), hBW⟩
  · rw [decide_eq_false hs]
    have hr : Shut (decide (s = s' ∧ v = v') = false) := ⟨decide_eq_false fun h => hs h.1⟩
    clear hs hE1 hE2
    go_wp2
    go_ret
    exact ⟨(by rw [hr.out]; rfl), hBW⟩

set_option maxHeartbeats 1000000 in
set_option maxRecDepth 4000 in
theorem checkD_any (sa : Option Addr) (sc : Nat) (wa : Option Addr) (wc : Nat) (s v : List UInt8) (w : World) (ls : s.length ≤ 9223372036854775807) (lv : v.length ≤ 9223372036854775807) (hsc : s.length ≤ sc) (h1 : Lies w sa (bs s)) (hL : LaidN w) :
    Calls Tryz.prog 10 #[dkV sa s.length sc wa v.length wc] w fun e w' => e = .returned (.int .i64 (dkCode s v)) ∧ Below w.heap.size w w' := by
  obtain ⟨W, hW⟩ : ∃ W, w.alloc (.cells #[.slice sa s.length sc, .slice wa v.length wc] 24) = W := ⟨_, rfl⟩
  have hBW : Below w.heap.size w W := by rw [← hW]; exact (Below.refl _ _).alloc (Nat.le_refl _) _
  have hb1 : W.heap[w.heap.size]? = some (.cells #[.slice sa s.length sc, .slice wa v.length wc] 24 (0, 0)) := by rw [← hW, heap_alloc_eq, if_pos rfl]
  obtain ⟨c0, c1, _, _⟩ := cellsD hb1
  have hR := hasRoom_any sa s.length sc wa v.length wc 0 W ls lv (Nat.zero_le _)
  simp only [dkV] at hR ⊢
  go_enter Tryz.func10, Tryz.ntmps10
  go_wp2_with fail
  refine hR.mono ?_
  rintro e W1 ⟨rfl, hb⟩
  have hB1 := hBW.trans (hb.mono hBW.size)
  have hk1 := blkB hb1 hb
  clear hR hW c0 c1
  obtain ⟨c0, c1, _, _⟩ := cellsD hk1
  by_cases hs : s.length + v.length ≤ 60000
  · have hs' : s.length + v.length + 0 ≤ 60000 := hs
    rw [decide_eq_true hs']
    have HZ : Shut (dkCode s v = (linesL 200 s).2.2) := ⟨by rw [dkCode, if_neg (by omega)]⟩
    have hD := readD_any sa sc s W1 (by omega) hsc (h1.below hB1 (Nat.le_refl _)) (hL.below hB1)
    clear hs hs'
    go_wp2_with fail
    refine hD.mono ?_
    rintro e W2 ⟨hb2, L, p, cp, rfl, _⟩
    have hB2 := hB1.trans (hb2.mono hB1.size)
    clear hD hb2
    generalize (linesL 200 s).2.2 = z at HZ
    generalize (linesL 200 s).2.1 = y
    go_wp2
    go_ret
    exact ⟨(by rw [HZ.out]; rfl), hB2⟩
  · have hs' : ¬ s.length + v.length + 0 ≤ 60000 := hs
    rw [decide_eq_false hs']
    have HZ : Shut (dkCode s v = 2) := ⟨by rw [dkCode, if_pos (by omega)]⟩
    clear hs hs'
    go_wp2
    go_ret
    exact ⟨(by rw [HZ.out]; rfl), hB1⟩

end Go.Proofs.YtekdigbdfeamkaaGreatDoor
