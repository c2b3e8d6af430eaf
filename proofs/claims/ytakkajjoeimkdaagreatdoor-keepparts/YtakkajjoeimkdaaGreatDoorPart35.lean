import Derived.Test.YtakkajjoeimkdaaGreatDoorPart34
import Derived.Test.YtakkajjoeimkdaaGreatDoorPart29
import Derived.Maps.AppendAt
import Derived.Test.YtakkajjoeimkdaaGreatDoorPart19
import Derived.Lib.ConvBytes
import Derived.Lib.SmallJoins
import Derived.Deep.RegionLaw
namespace Go.Proofs.YtakkajjoeimkdaaGreatDoor
open Go.RowKit
set_option linter.unusedVariables false
set_option linter.unusedSimpArgs false

def OffRow (v : Value) (a : Option Addr) (l : List UInt8) : Prop := l ≠ [] → ∀ b o, a = some ⟨b, o, none⟩ → v.ownBlock ≠ some b

def RecOff (v : Value) (m : MRec) : Prop := OffRow v m.da m.r.d ∧ OffRow v m.ca m.r.c

theorem lies_grownO {w w' : World} {row : Option Nat} {a : Option Addr} {l : List UInt8} (hg : w.grownBy w' row) (h : Lies w a (bs l)) (ho : l ≠ [] → ∀ b o, a = some ⟨b, o, none⟩ → row ≠ some b) : Lies w' a (bs l) := by
 intro k u hu
 obtain ⟨b, off, e, hc⟩ := h k u hu
 refine ⟨b, off, e, ?_⟩
 have h1 := World.block_lt_of_cell? w _ hc
 have h2 : l ≠ [] := by intro e; subst e; simp [bs] at hu
 have h3 : w'.heap[b]? = w.heap[b]? := hg.block b h1 (fun e' => ho h2 b off e e'.symm)
 rw [← hc]
 simp only [World.cell?, h3]

theorem RecIn.grown {w w' : World} {v : Value} {m : MRec} (h : RecIn w m) (ho : RecOff v m) (hg : w.grownBy w' v.ownBlock) : RecIn w' m :=
 ⟨lies_grownO hg h.1 ho.1, lies_grownO hg h.2 ho.2⟩

theorem OffRow.next {w : World} {v v' : Value} {a : Option Addr} {l : List UInt8} (h : OffRow v a l) (hl : Lies w a (bs l)) (hv : v'.ownBlock = v.ownBlock ∨ v'.ownBlock = some w.heap.size) : OffRow v' a l := by
 intro hne b o e
 rcases hv with hv | hv
 ·rw [hv]; exact h hne b o e
 ·rw [hv]
  intro e'
  have h1 := hl.lt e 0 (by rw [bs_length]; exact List.length_pos_iff.2 hne)
  have h2 := World.block_lt_of_cell? w _ h1
  simp at e' h2
  omega

def RecNew (B : Nat) (m : MRec) : Prop := (∀ b o, m.da = some ⟨b, o, none⟩ → B ≤ b) ∧ ∀ b o, m.ca = some ⟨b, o, none⟩ → B ≤ b

def RdD (w wr : World) (v : Value) (l : List UInt8) (sz : Nat) : Prop :=
 ∃ L : List MRec, LogAt 200 l (L.map MRec.r) sz ∧ wr.ownsRow w.heap.size 40 13 v L.length (recCells L) ∧ (∀ y ∈ L, RecIn wr y ∧ RecOff v y ∧ RecNew w.heap.size y) ∧ Below w.heap.size w wr

def ReadD (B : Nat) (l : List UInt8) (e : Ending) (w' : World) : Prop :=
 ∃ (L : List MRec) (p : Option Addr) (cp : Nat), e = .returned (.tuple #[.slice p L.length cp, .int .i64 ((linesL 200 l).2.1 : Int), .int .i64 (linesL 200 l).2.2]) ∧ L.map MRec.r = (linesL 200 l).1 ∧ L.length ≤ cp ∧ Lies w' p (recCells L) ∧ (∀ y ∈ L, RecIn w' y ∧ RecNew B y) ∧ (∀ b o, p = some ⟨b, o, none⟩ → B ≤ b)

theorem own_recs {w : World} {B n : Nat} {e : TypeId} {v : Value} {l : List MRec} (h : w.ownsRow B e 13 v n (recCells l)) : ∃ a cap, v = .slice a n cap ∧ Lies w a (recCells l) ∧ n ≤ cap := by
 have hn : n = l.length := by have := h.1; rw [recCells_length] at this; omega
 rcases h.2 with ⟨rfl, h0⟩ | ⟨g, cap, cur, rfl, hg, hc, h1, h2, h3, htake⟩
 ·subst h0
  obtain rfl : l = [] := List.length_eq_zero_iff.1 hn.symm
  exact ⟨none, 0, rfl, Lies.nil _ _, Nat.le_refl _⟩
 ·refine ⟨some ⟨g, 0, none⟩, cap, rfl, ?_, h1⟩
  have h4 := Lies.of_block hc
  intro k u hu
  refine h4 k u ?_
  have hk : k < n * 13 := by
   rcases Nat.lt_or_ge k (recCells l).length with h5 | h5
   ·rw [recCells_length] at h5; omega
   ·rw [List.getElem?_eq_none h5] at hu; cases hu
  rw [← htake, List.getElem?_take, if_pos hk] at hu
  exact hu

theorem infoRec : (Tryz.prog.info? 40).map (fun i => (i.zero, i.size, i.bytes)) = some (some (rcV rc0 none 0 none 0), 13, 136) := by kernel_rfl

theorem ReadD.stop {w wr w2 : World} {l : List UInt8} {sz : Nat} {L : List MRec} {p1 : Option Addr} {c1 : Nat} {z : Int} (hI : LogAt 200 l (L.map MRec.r) sz ∧ wr.ownsRow w.heap.size 40 13 (.slice p1 L.length c1) L.length (recCells L) ∧ (∀ y ∈ L, RecIn wr y ∧ RecOff (.slice p1 L.length c1) y ∧ RecNew w.heap.size y) ∧ Below w.heap.size w wr)
  (hlp : Lies wr p1 (recCells L)) (hpc : L.length ≤ c1) (hb : Below wr.heap.size wr w2) (he : linesL (200 - (L.map MRec.r).length) (l.drop sz) = ([], 0, z)) : Below w.heap.size w w2 ∧ ReadD w.heap.size l (.returned (.tuple #[.slice p1 L.length c1, .int .i64 (sz : Int), .int .i64 z])) w2 := by
 have hE := hI.1.stop he
 refine ⟨hI.2.2.2.trans (hb.mono hI.2.2.2.size), L, p1, c1, ?_, ?_, hpc, hlp.below hb (Nat.le_refl _), fun y hy => ⟨(hI.2.2.1 y hy).1.below hb, (hI.2.2.1 y hy).2.2⟩, fun b o e => (hI.2.1.lt b (by rw [e]; rfl)).1⟩
 ·rw [hE]
 ·rw [hE]

theorem RdD.step {w wr wA w4 : World} {v v' : Value} {l : List UInt8} {sz : Nat} {L : List MRec} {y : MRec} {a r : List UInt8} (hI : LogAt 200 l (L.map MRec.r) sz ∧ wr.ownsRow w.heap.size 40 13 v L.length (recCells L) ∧ (∀ y ∈ L, RecIn wr y ∧ RecOff v y ∧ RecNew w.heap.size y) ∧ Below w.heap.size w wr)
  (hbA : Below wr.heap.size wr wA) (hs : l.drop sz = a ++ 10 :: r) (ha : (10 : UInt8) ∉ a) (hp : pCode a = 0) (hx : readL a = some y.r) (hm : L.length < 200) (hyA : RecIn wA y) (hfd : ∀ b o, y.da = some ⟨b, o, none⟩ → wr.heap.size ≤ b) (hfc : ∀ b o, y.ca = some ⟨b, o, none⟩ → wr.heap.size ≤ b)
  (hown' : w4.ownsRow w.heap.size 40 13 v' (L.length + 1) (recCells L ++ y.cells)) (hg : wA.grownBy w4 v.ownBlock) (hvv : v'.ownBlock = v.ownBlock ∨ v'.ownBlock = some wA.heap.size) : RdD w w4 v' l (sz + (a.length + 1)) := by
 obtain ⟨hlog, hown, hall, hbr⟩ := hI
 have hoff : RecOff v y := ⟨fun _ b o e e' => by have := hfd b o e; have := (hown.lt b e').2; omega, fun _ b o e e' => by have := hfc b o e; have := (hown.lt b e').2; omega⟩
 refine ⟨L ++ [y], ?_, ?_, ?_, ?_⟩
 ·rw [List.map_append]
  exact hlog.next hs ha hp hx (by rw [List.length_map]; exact hm)
 ·rw [recCells_append, List.length_append]
  have e : recCells [y] = y.cells := by simp [recCells]
  rw [e]
  exact hown'
 ·intro u hu
  rcases List.mem_append.1 hu with hu | hu
  ·have h1 := (hall u hu).1.below hbA
   have h2 := (hall u hu).2.1
   exact ⟨h1.grown h2 hg, ⟨h2.1.next h1.1 hvv, h2.2.next h1.2 hvv⟩, (hall u hu).2.2⟩
  ·obtain rfl : u = y := by simpa using hu
   exact ⟨hyA.grown hoff hg, ⟨hoff.1.next hyA.1 hvv, hoff.2.next hyA.2 hvv⟩, fun b o e => Nat.le_trans hbr.size (hfd b o e), fun b o e => Nat.le_trans hbr.size (hfc b o e)⟩
 ·have h1 := hbr.trans (hbA.mono hbr.size)
  exact h1.grown hg h1.size (fun k hk => (hown.lt k hk).1)

set_option maxHeartbeats 2000000 in
set_option maxRecDepth 8000 in
theorem readD_any (p : Option Addr) (cp : Nat) (l : List UInt8) (w : World) (hn : l.length ≤ 120000) (hcap : l.length ≤ cp) (h : Lies w p (bs l)) (hL : LaidN w) :
  Calls Tryz.prog 42 #[.slice p l.length cp] w fun e w' => Below w.heap.size w w' ∧ ReadD w.heap.size l e w' := by
 obtain ⟨i0, hii, hz0, hz1, hz2⟩ := info_parts infoRec
 have H0 : Shut (RdD w w (.slice none 0 0) l 0) := ⟨[], LogAt.start 200 l, World.ownsRow_nil _ _ _ _, fun y hy => absurd hy (by simp), Below.refl _ _⟩
 obtain ⟨n, hln⟩ : ∃ n, l.length = n := ⟨_, rfl⟩
 have HLN := Shut.mk hln
 rw [hln] at hn hcap ⊢
 clear hln
 go_enter Tryz.func42, Tryz.ntmps42
 go_wp2_with fail
 go_loopw [2, 3] (fun v m wr => ∃ sz : Nat, sz ≤ n ∧ m = .int .i64 sz ∧ Shut (RdD w wr v l sz)) (fun _ m _ => n - (intOf m).toNat)
 case atStart => exact ⟨0, Nat.zero_le _, rfl, H0⟩
 case round =>
  clear H0
  obtain ⟨sz, hsz, rfl, hI⟩ := hrel
  obtain ⟨L, hlog, hown, hall, hbr⟩ := hI.out
  have HI := Shut.mk (And.intro hlog (And.intro hown (And.intro hall hbr)))
  obtain ⟨p1, c1, rfl, hlp, hpc⟩ := own_recs hown
  by_cases hlt : sz < n
  ·obtain ⟨b0, o0, rfl⟩ := h.some (k := 0) (by rw [bs_length, HLN.out]; omega)
   have hls : Lies wr (some ⟨b0, o0 + sz, none⟩) (bs (l.drop sz)) := by
    refine Lies.mk fun k hk => ?_
    rw [bs_length, List.length_drop, HLN.out] at hk
    have h1 := (h.below hbr (Nat.le_refl _)).at (k := sz + k) (u := .int .u8 ((l[sz + k]'(by rw [HLN.out]; omega)).toNat : Int)) (bs_get l _ (by rw [HLN.out]; omega))
    rw [Nat.add_assoc, h1]
    simp [bs]
   have hdl : (l.drop sz).length = n - sz := by rw [List.length_drop, HLN.out]
   have hLr := hL.below hbr
   have hR := readLine_any ⟨b0, o0 + sz, none⟩ (cp - sz) (l.drop sz) wr (by omega) (by omega) hls hLr
   have HDL := Shut.mk hdl
   rw [hdl] at hR
   have hne : l.drop sz ≠ [] := by intro e; rw [e] at hdl; simp at hdl; omega
   have hcs : ¬ cp = sz := by omega
   have HNE := Shut.mk hne
   have HLP := Shut.mk hlp
   clear hI hlog hown hall hls hdl hne hlp hLr
   go_wp2_with fail
   refine hR.mono ?_
   rintro e w1 ⟨hb1, hR1⟩
   clear hR
   rcases hR1 with ⟨hno, rfl⟩ | ⟨a, r, ha, hl, hp, rfl⟩ | ⟨a, r, x, da, dc, ca, cc, ha, hl, hp, hx, rfl, hld, hlc, hfd, hfc⟩
   ·have HE : Shut (linesL (200 - (L.map MRec.r).length) (l.drop sz) = ([], 0, 9)) := ⟨by rw [linesL_none hno, if_neg HNE.out]⟩
    clear hno
    simp only [rcV, rc0, List.length_nil]
    go_upto_region 3 with fail
    generalize hW2 : w1.alloc (.cells #[.int .i64 0, .int .i64 0, .int .i64 0, .int .i64 0, .int .i64 0, .int .i64 0, .int .i64 0, .int .i64 0, .int .i64 0, .int .i64 0, .int .i64 0, .slice none 0 0, .slice none 0 0] 40) = w2
    have hb2 : Below w1.heap.size w1 w2 := by rw [← hW2]; exact (Below.refl _ _).alloc (Nat.le_refl _) _
    have hb12 := hb1.trans (hb2.mono hb1.size)
    have F := Shut.mk (ReadD.stop HI.out HLP.out hpc hb12 HE.out)
    clear hW2 hb2 hb12 hb1 HE
    go_wp2
    refine bodyPost_ret (v := .tuple #[.slice p1 L.length c1, .int .i64 (sz : Int), .int .i64 9]) (by simp [results, Tryz.results42, go_sem]) rfl ?_
    exact F.out
   ·have HE : Shut (linesL (200 - (L.map MRec.r).length) (l.drop sz) = ([], 0, pCode a)) := ⟨by rw [hl, linesL_bad r ha hp]⟩
    have bz : (pCode a != 0) = true := by simpa using hp
    clear hp hl ha
    generalize pCode a = z at bz HE ⊢
    simp only [rcV, rc0, List.length_nil]
    go_upto_region 3 with fail
    generalize hW2 : w1.alloc (.cells #[.int .i64 0, .int .i64 0, .int .i64 0, .int .i64 0, .int .i64 0, .int .i64 0, .int .i64 0, .int .i64 0, .int .i64 0, .int .i64 0, .int .i64 0, .slice none 0 0, .slice none 0 0] 40) = w2
    have hb2 : Below w1.heap.size w1 w2 := by rw [← hW2]; exact (Below.refl _ _).alloc (Nat.le_refl _) _
    have hb12 := hb1.trans (hb2.mono hb1.size)
    have F := Shut.mk (ReadD.stop HI.out HLP.out hpc hb12 HE.out)
    clear hW2 hb2 hb12 hb1 HE
    go_wp2
    refine bodyPost_ret (v := .tuple #[.slice p1 L.length c1, .int .i64 (sz : Int), .int .i64 z]) (by simp [results, Tryz.results42, go_sem]) rfl ?_
    exact F.out
   ·by_cases h200 : L.length = 200
    ·have HE : Shut (linesL (200 - (L.map MRec.r).length) (l.drop sz) = ([], 0, 2)) := ⟨by rw [List.length_map, h200, Nat.sub_self, hl, linesL_many r ha hp]⟩
     have h200' : (L.length : Int) = 200 := by omega
     clear hp hl ha hx hfd hfc hld hlc
     simp only [rcV, rc0, List.length_nil]
     go_upto_region 3 with fail
     generalize hW2 : w1.alloc (.cells #[.int .i64 x.k, .int .i64 x.p, .int .i64 x.n, .int .i64 x.y, .int .i64 x.h.F, .int .i64 x.h.Q, .int .i64 x.h.T, .int .i64 x.h.L, .int .i64 x.h.B, .int .i64 x.h.K, .int .i64 x.id, .slice da x.d.length dc, .slice ca x.c.length cc] 40) = w2
     have hb2 : Below w1.heap.size w1 w2 := by rw [← hW2]; exact (Below.refl _ _).alloc (Nat.le_refl _) _
     have hb12 := hb1.trans (hb2.mono hb1.size)
     have F := Shut.mk (ReadD.stop HI.out HLP.out hpc hb12 HE.out)
     clear hW2 hb2 hb12 hb1 HE
     go_wp2
     refine bodyPost_ret (v := .tuple #[.slice p1 L.length c1, .int .i64 (sz : Int), .int .i64 2]) (by simp [results, Tryz.results42, go_sem]) rfl ?_
     exact F.out
    ·have hL200 : L.length < 200 := by
      have := HI.out.1.2.1
      rw [List.length_map] at this
      omega
     have h200' : ¬ (L.length : Int) = 200 := by omega
     have hal : sz + (a.length + 1) ≤ n := by
      have h1 := HDL.out
      rw [hl, List.length_append, List.length_cons] at h1
      omega
     have HX := Shut.mk (And.intro hl (And.intro ha (And.intro hp (And.intro hx (And.intro hfd hfc)))))
     clear hp hl ha hx hfd hfc
     obtain ⟨m, hm⟩ : ∃ m, a.length + 1 = m := ⟨_, rfl⟩
     rw [hm] at hal ⊢
     have HM := Shut.mk hm
     clear hm
     simp only [rcV, rc0, List.length_nil]
     go_upto_region 3 with fail
     generalize hW2 : w1.alloc (.cells #[.int .i64 x.k, .int .i64 x.p, .int .i64 x.n, .int .i64 x.y, .int .i64 x.h.F, .int .i64 x.h.Q, .int .i64 x.h.T, .int .i64 x.h.L, .int .i64 x.h.B, .int .i64 x.h.K, .int .i64 x.id, .slice da x.d.length dc, .slice ca x.c.length cc] 40) = w2
     have hb2 : Below w1.heap.size w1 w2 := by rw [← hW2]; exact (Below.refl _ _).alloc (Nat.le_refl _) _
     have hb12 := hb1.trans (hb2.mono hb1.size)
     have hq2 : w2.heap[w1.heap.size]? = some (.cells #[.int .i64 x.k, .int .i64 x.p, .int .i64 x.n, .int .i64 x.y, .int .i64 x.h.F, .int .i64 x.h.Q, .int .i64 x.h.T, .int .i64 x.h.L, .int .i64 x.h.B, .int .i64 x.h.K, .int .i64 x.id, .slice da x.d.length dc, .slice ca x.c.length cc] 40 (0, 0)) := by rw [← hW2, heap_alloc_eq, if_pos rfl]
     have hown2 := ownB HI.out.2.1 hb12
     replace hld := hld.below hb2 (Nat.le_refl _)
     replace hlc := hlc.below hb2 (Nat.le_refl _)
     clear hW2 hb2 hb1
     obtain ⟨q0, q1, q2, q3, q4, q5, q6, q7, q8, q9, q10, q11, q12⟩ := bx13 hq2
     have hsz2 := hb12.size
     have hszr := hbr.size
     go_wp2_with (first | (at_builtin; refine wpList_append_own_at _ rfl _ _ 22 rfl w.heap.size 40 i0 (rcV rc0 none 0 none 0) 13 136 Tryz.underlying22 hii hz0 hz1 hz2 rfl (by decide) _ _ _ rfl (hown2.alloc _) ⟨w2.heap.size, 0, none⟩ 1 1 [.int .i64 x.k, .int .i64 x.p, .int .i64 x.n, .int .i64 x.y, .int .i64 x.h.F, .int .i64 x.h.Q, .int .i64 x.h.T, .int .i64 x.h.L, .int .i64 x.h.B, .int .i64 x.h.K, .int .i64 x.id, .slice da x.d.length dc, .slice ca x.c.length cc] rfl rfl ?c1 ?c2 ?c3 ?c4 ?c5 ?_) | fail)
     case c1 =>
      intro j u hj
      rw [Addr.add_lit, Nat.zero_add]
      exact cellB (by rw [heap_alloc_eq, if_pos rfl]) j u (by simpa using hj)
     case c2 => exact fun u hu => List.all_eq_true.1 (show List.all [.int .i64 x.k, .int .i64 x.p, .int .i64 x.n, .int .i64 x.y, .int .i64 x.h.F, .int .i64 x.h.Q, .int .i64 x.h.T, .int .i64 x.h.L, .int .i64 x.h.B, .int .i64 x.h.K, .int .i64 x.id, .slice da x.d.length dc, .slice ca x.c.length cc] (fun v => v.oneCell') = true from rfl) u hu
     case c3 => unfold maxLen; omega
     case c4 => omega
     case c5 => simp; omega
     intro v' w4 hown' hgrow _ hvv
     have hbA := hb12.alloc hsz2 (.cells #[.int .i64 x.k, .int .i64 x.p, .int .i64 x.n, .int .i64 x.y, .int .i64 x.h.F, .int .i64 x.h.Q, .int .i64 x.h.T, .int .i64 x.h.L, .int .i64 x.h.B, .int .i64 x.h.K, .int .i64 x.id, .slice da x.d.length dc, .slice ca x.c.length cc] 40)
     have R := Shut.mk (RdD.step (y := ⟨x, da, dc, ca, cc⟩) HI.out hbA HX.out.1 HX.out.2.1 HX.out.2.2.1 HX.out.2.2.2.1 hL200 ⟨hld.alloc _, hlc.alloc _⟩ HX.out.2.2.2.2.1 HX.out.2.2.2.2.2 hown' hgrow (by rw [show (w2.alloc (.cells #[.int .i64 x.k, .int .i64 x.p, .int .i64 x.n, .int .i64 x.y, .int .i64 x.h.F, .int .i64 x.h.Q, .int .i64 x.h.T, .int .i64 x.h.L, .int .i64 x.h.B, .int .i64 x.h.K, .int .i64 x.id, .slice da x.d.length dc, .slice ca x.c.length cc] 40)).heap.size = w2.heap.size + 1 from by simp]; exact hvv))
     rw [HM.out] at R
     clear hown' hgrow hvv hown2 hbA hld hlc hq2 q0 q1 q2 q3 q4 q5 q6 q7 q8 q9 q10 q11 q12
     go_wp2
     go_roundw
     case rel => exact ⟨sz + m, hal, by go_num, R⟩
     case measure => have := HM.out; simp [intOf]; omega
  ·have HE : Shut (linesL (200 - (L.map MRec.r).length) (l.drop sz) = ([], 0, 0)) := ⟨by rw [List.drop_eq_nil_of_le (by rw [HLN.out]; omega), linesL_nil]⟩
   have F := Shut.mk (ReadD.stop HI.out hlp hpc (Below.refl _ _) HE.out)
   clear hI hlog hown hall hlp
   go_wp2
   refine bodyPost_ret (v := .tuple #[.slice p1 L.length c1, .int .i64 (sz : Int), .int .i64 0]) (by simp [results, Tryz.results42, go_sem]) rfl ?_
   exact F.out

def dkCode (s v : List UInt8) : Int := if 60000 < s.length + v.length then 2 else (linesL 200 s).2.2

theorem cellsD {W : World} {g : Nat} {a b : Value} (h : W.heap[g]? = some (.cells #[a, b] 43 (0, 0))) : W.cell? ⟨g, 0, none⟩ = some a ∧ W.cell? ⟨g, 1, none⟩ = some b ∧ W.frozen? ⟨g, 0, none⟩ = false ∧ W.frozen? ⟨g, 1, none⟩ = false :=
 ⟨cellB h 0 _ rfl, cellB h 1 _ rfl, by simp [World.frozen?, h], by simp [World.frozen?, h]⟩

set_option maxHeartbeats 1000000 in
set_option maxRecDepth 4000 in
theorem checkD_any (sa : Option Addr) (sc : Nat) (wa : Option Addr) (wc : Nat) (s v : List UInt8) (w : World) (ls : s.length ≤ 9223372036854775807) (lv : v.length ≤ 9223372036854775807) (hsc : s.length ≤ sc) (h1 : Lies w sa (bs s)) (hL : LaidN w) :
  Calls Tryz.prog 37 #[dkV sa s.length sc wa v.length wc] w fun e w' => e = .returned (.int .i64 (dkCode s v)) ∧ Below w.heap.size w w' := by
 obtain ⟨W, hW⟩ : ∃ W, w.alloc (.cells #[.slice sa s.length sc, .slice wa v.length wc] 43) = W := ⟨_, rfl⟩
 have hBW : Below w.heap.size w W := by rw [← hW]; exact (Below.refl _ _).alloc (Nat.le_refl _) _
 have hb1 : W.heap[w.heap.size]? = some (.cells #[.slice sa s.length sc, .slice wa v.length wc] 43 (0, 0)) := by rw [← hW, heap_alloc_eq, if_pos rfl]
 obtain ⟨c0, c1, _, _⟩ := cellsD hb1
 have hR := hasRoom_any sa s.length sc wa v.length wc 0 W ls lv (Nat.zero_le _)
 simp only [dkV] at hR ⊢
 go_enter Tryz.func37, Tryz.ntmps37
 go_wp2_with fail
 refine hR.mono ?_
 rintro e W1 ⟨rfl, hb⟩
 have hB1 := hBW.trans (hb.mono hBW.size)
 have hk1 := blkB hb1 hb
 clear hR hW c0 c1
 obtain ⟨c0, c1, _, _⟩ := cellsD hk1
 by_cases hs : s.length + v.length ≤ 60000
 ·have hs' : s.length + v.length + 0 ≤ 60000 := hs
  rw [decide_eq_true hs']
  have HZ : Shut (dkCode s v = (linesL 200 s).2.2) := ⟨by rw [dkCode, if_neg (by omega)]⟩
  have hD := readD_any sa sc s W1 (by omega) hsc (h1.below hB1 (Nat.le_refl _)) (hL.below hB1)
  clear hs hs'
  go_wp2_with fail
  refine hD.mono ?_
  rintro e W2 ⟨hb2, L, p, cp, rfl, _⟩
  have hB2 := hB1.trans (hb2.mono hB1.size)
  clear hD hb2
  generalize (linesL 200 s).2.2 = z at HZ
  generalize (linesL 200 s).2.1 = y
  go_wp2
  go_ret
  exact ⟨(by rw [HZ.out]; rfl), hB2⟩
 ·have hs' : ¬ s.length + v.length + 0 ≤ 60000 := hs
  rw [decide_eq_false hs']
  have HZ : Shut (dkCode s v = 2) := ⟨by rw [dkCode, if_pos (by omega)]⟩
  clear hs hs'
  go_wp2
  go_ret
  exact ⟨(by rw [HZ.out]; rfl), hB1⟩

def DiskR (B : Nat) (z : Int) (s v : List UInt8) (e : Ending) (w' : World) : Prop :=
 ∃ (sa : Option Addr) (sc : Nat) (wa : Option Addr) (wc : Nat), e = .returned (.tuple #[dkV sa s.length sc wa v.length wc, .int .i64 z]) ∧ s.length ≤ sc ∧ v.length ≤ wc ∧ Lies w' sa (bs s) ∧ Lies w' wa (bs v) ∧ (∀ b o, sa = some ⟨b, o, none⟩ → B ≤ b) ∧ ∀ b o, wa = some ⟨b, o, none⟩ → B ≤ b

theorem DiskR.none {B : Nat} {z : Int} {e : Ending} {w' : World} (h : e = .returned (.tuple #[dkV none 0 0 none 0 0, .int .i64 z])) : DiskR B z [] [] e w' :=
 ⟨Option.none, 0, Option.none, 0, h, Nat.le_refl _, Nat.le_refl _, Lies.nil _ _, Lies.nil _ _, (fun b o e => by cases e), (fun b o e => by cases e)⟩

theorem box2 (W : World) (g : Nat) (T : TypeId) (a0 a1 v0 v1 : Value) (hb : W.heap[g]? = some (.cells #[a0, a1] T (0, 0))) :
  ∃ W9, ((W.setCell ⟨g, 0, none⟩ v0).setCell ⟨g, 1, none⟩ v1) = W9 ∧ W9.heap[g]? = some (.cells #[v0, v1] T (0, 0)) ∧ (∀ k, k ≠ g → W9.heap[k]? = W.heap[k]?) ∧ (∀ B w, B ≤ g → Below B w W → Below B w W9) := by
 refine ⟨_, rfl, ?_, ?_, ?_⟩
 ·have h := setCell_blk (setCell_blk hb 0 v0) 1 v1
  simpa using h
 ·intro k hk
  rw [setCell_far _ _ hk, setCell_far _ _ hk]
 ·intro B w hB h
  exact ((h.setCell (p := ⟨g, 0, none⟩) hB _).setCell (p := ⟨g, 1, none⟩) hB _)

theorem catB (a b : List UInt8) : (⟨a.toArray⟩ ++ ⟨b.toArray⟩ : ByteArray) = ⟨(a ++ b).toArray⟩ := by
 apply ByteArray.ext
 simp

theorem lies_bytesWorld (w : World) (l : List UInt8) : Lies (Lib.bytesWorld w 5 ⟨l.toArray⟩) (some ⟨w.heap.size, 0, none⟩) (bs l) := by
 refine Lies.mk fun k hk => ?_
 rw [bs_length] at hk
 rw [Nat.zero_add, Lib.bytesWorld_cell w _ _ k (by rw [show (⟨l.toArray⟩ : ByteArray).size = l.length from by simp [ByteArray.size]]; exact hk)]
 simp [bs, hk]

theorem entersClone : ∀ args w, (callFunc 40 args).run Tryz.prog w = .ok (.enter 40 args) w := enters_of Tryz.func40 (by kernel_rfl) rfl
theorem entersJoined : ∀ args w, (callFunc 41 args).run Tryz.prog w = .ok (.enter 41 args) w := enters_of Tryz.func41 (by kernel_rfl) rfl

def IsBytes (B m : Nat) (l : List UInt8) (x : Value) (w : World) : Prop := ∃ (p : Option Addr) (c : Nat), x = .slice p m c ∧ m ≤ c ∧ Lies w p (bs l) ∧ ∀ b o, p = some ⟨b, o, none⟩ → B ≤ b

def putCode (s v : List UInt8) (r : Rc) : Int :=
 if dkCode s v = 0 then if r.code = 0 then if s.length + v.length + (r.text.length + 1) ≤ 60000 then 0 else 2 else r.code else dkCode s v

def PutR (B : Nat) (s v : List UInt8) (r : Rc) (e : Ending) (w' : World) : Prop :=
 DiskR B (putCode s v r) (if putCode s v r = 0 then s else []) (if putCode s v r = 0 then v ++ (r.text ++ [10]) else []) e w'

theorem PutR.bad {B : Nat} {s v : List UInt8} {r : Rc} {z : Int} {e : Ending} {w' : World} (h : putCode s v r = z) (hz : z ≠ 0) (he : e = .returned (.tuple #[dkV none 0 0 none 0 0, .int .i64 z])) : PutR B s v r e w' := by
 unfold PutR
 rw [h, if_neg hz, if_neg hz]
 exact DiskR.none he

theorem PutR.good {B : Nat} {s v : List UInt8} {r : Rc} {e : Ending} {w' : World} (h : putCode s v r = 0) (he : DiskR B 0 s (v ++ (r.text ++ [10])) e w') : PutR B s v r e w' := by
 unfold PutR
 rw [h, if_pos rfl, if_pos rfl]
 exact he

set_option maxHeartbeats 4000000 in
set_option maxRecDepth 8000 in
theorem putD_any (sa : Option Addr) (sc : Nat) (wa : Option Addr) (wc : Nat) (s v : List UInt8) (r : Rc) (da : Option Addr) (dc : Nat) (ca : Option Addr) (cc : Nat) (w : World) (ls : s.length ≤ 9223372036854775807) (lv : v.length ≤ 9223372036854775807) (hsc : s.length ≤ sc) (h1 : Lies w sa (bs s)) (h2 : Lies w wa (bs v))
  (hi : r.ints) (ld : r.d.length ≤ maxLen) (hd : Lies w da (bs r.d)) (hc : Lies w ca (bs r.c)) (hL : LaidN w) :
  Calls Tryz.prog 13 #[dkV sa s.length sc wa v.length wc, rcV r da dc ca cc] w fun e w' => PutR w.heap.size s v r e w' ∧ Below w.heap.size w w' := by
 obtain ⟨W, hW⟩ : ∃ W, ((w.alloc (.cells #[.slice sa s.length sc, .slice wa v.length wc] 43)).alloc (.cells #[.int .i64 r.k, .int .i64 r.p, .int .i64 r.n, .int .i64 r.y, .int .i64 r.h.F, .int .i64 r.h.Q, .int .i64 r.h.T, .int .i64 r.h.L, .int .i64 r.h.B, .int .i64 r.h.K, .int .i64 r.id, .slice da r.d.length dc, .slice ca r.c.length cc] 40)).alloc (.cells #[.slice none 0 0, .slice none 0 0] 43) = W := ⟨_, rfl⟩
 have hBW : Below w.heap.size w W := by rw [← hW]; exact (((Below.refl _ _).alloc (Nat.le_refl _) _).alloc (by simp) _).alloc (by simp; omega) _
 have hb1 : W.heap[w.heap.size]? = some (.cells #[.slice sa s.length sc, .slice wa v.length wc] 43 (0, 0)) := by rw [← hW, heap_alloc_eq, if_neg (by simp; omega), heap_alloc_eq, if_neg (by simp), heap_alloc_eq, if_pos rfl]
 have hb2 : W.heap[w.heap.size + 1]? = some (.cells #[.int .i64 r.k, .int .i64 r.p, .int .i64 r.n, .int .i64 r.y, .int .i64 r.h.F, .int .i64 r.h.Q, .int .i64 r.h.T, .int .i64 r.h.L, .int .i64 r.h.B, .int .i64 r.h.K, .int .i64 r.id, .slice da r.d.length dc, .slice ca r.c.length cc] 40 (0, 0)) := by rw [← hW, heap_alloc_eq, if_neg (by simp), heap_alloc_eq, if_pos (by simp)]
 have hb3 : W.heap[w.heap.size + 1 + 1]? = some (.cells #[.slice none 0 0, .slice none 0 0] 43 (0, 0)) := by rw [← hW, heap_alloc_eq, if_pos (by simp)]
 replace h1 := Lies.below hBW h1 (Nat.le_refl _)
 replace h2 := Lies.below hBW h2 (Nat.le_refl _)
 replace hd := Lies.below hBW hd (Nat.le_refl _)
 replace hc := Lies.below hBW hc (Nat.le_refl _)
 have hLW := hL.below hBW
 have hC := checkD_any sa sc wa wc s v W ls lv hsc h1 hLW
 have hP : ∀ w1, Below W.heap.size W w1 → Calls Tryz.prog 38 #[rcV r da dc ca cc] w1 fun e w' => e = .returned (.tuple #[.string ⟨r.printed.toArray⟩, .int .i64 r.code]) ∧ Below w1.heap.size w1 w' := fun w1 hb => print_any r da dc ca cc w1 hi ld (hd.below hb (Nat.le_refl _)) (hc.below hb (Nat.le_refl _)) (hLW.below hb)
 simp only [rcV, dkV] at hC hP ⊢
 clear hL hd hc
 obtain ⟨c0, c1, f0, f1⟩ := cellsD hb1
 go_enter Tryz.func13, Tryz.ntmps13
 go_wp2_with fail
 refine hC.mono ?_
 rintro e W1 ⟨rfl, hB1⟩
 clear hC hW c0 c1 f0 f1
 have hF1 := hBW.trans (hB1.mono hBW.size)
 by_cases hz : dkCode s v = 0
 case neg =>
  have bz : (dkCode s v != 0) = true := by simpa using hz
  have HP : Shut (putCode s v r = dkCode s v ∧ dkCode s v ≠ 0) := ⟨by rw [putCode, if_neg hz], hz⟩
  have hk3 := blkB hb3 hB1
  clear hz
  generalize dkCode s v = z at bz HP ⊢
  obtain ⟨c0, c1, f0, f1⟩ := cellsD hk3
  go_wp2
  obtain ⟨W9, hW9, hb9, hk9, hB9⟩ := box2 W1 (w.heap.size + 1 + 1) 43 _ _ (.slice none 0 0) (.slice none 0 0) hk3
  rw [hW9]
  have hF9 := hB9 _ _ (by omega) hF1
  clear hW9 hB9 c0 c1 f0 f1
  obtain ⟨c0, c1, f0, f1⟩ := cellsD hb9
  refine bodyPost_ret (v := .tuple #[dkV none 0 0 none 0 0, .int .i64 z]) (by simp [results, Tryz.results13, go_sem, dkV, c0, c1]) rfl ?_
  exact ⟨PutR.bad HP.out.1 HP.out.2 rfl, hF9⟩
 rw [hz]
 have hs60 : s.length + v.length ≤ 60000 := by
  rw [dkCode] at hz
  split at hz
  ·cases hz
  ·omega
 have HZ := Shut.mk hz
 clear hz
 have hk2 := blkB hb2 hB1
 obtain ⟨q0, q1, q2, q3, q4, q5, q6, q7, q8, q9, q10, q11, q12⟩ := bx13 hk2
 go_wp2_with fail
 refine (hP W1 hB1).mono ?_
 rintro e W2 ⟨rfl, hb⟩
 have hB2 := hB1.trans (hb.mono hB1.size)
 have hF2 := hBW.trans (hB2.mono hBW.size)
 clear hP hb hk2 hF1 hB1 q0 q1 q2 q3 q4 q5 q6 q7 q8 q9 q10 q11 q12
 by_cases hr : r.code = 0
 case neg =>
  have br : (r.code != 0) = true := by simpa using hr
  have HP : Shut (putCode s v r = r.code ∧ r.code ≠ 0) := ⟨by rw [putCode, if_pos HZ.out, if_neg hr], hr⟩
  have hk3 := blkB hb3 hB2
  clear hr
  generalize r.code = z at br HP ⊢
  generalize (⟨r.printed.toArray⟩ : ByteArray) = T
  obtain ⟨c0, c1, f0, f1⟩ := cellsD hk3
  go_wp2
  obtain ⟨W9, hW9, hb9, hk9, hB9⟩ := box2 W2 (w.heap.size + 1 + 1) 43 _ _ (.slice none 0 0) (.slice none 0 0) hk3
  rw [hW9]
  have hF9 := hB9 _ _ (by omega) hF2
  clear hW9 hB9 c0 c1 f0 f1
  obtain ⟨c0, c1, f0, f1⟩ := cellsD hb9
  refine bodyPost_ret (v := .tuple #[dkV none 0 0 none 0 0, .int .i64 z]) (by simp [results, Tryz.results13, go_sem, dkV, c0, c1]) rfl ?_
  exact ⟨PutR.bad HP.out.1 HP.out.2 rfl, hF9⟩
 have hpr : r.printed = r.text := if_pos hr
 have hts := text_short hi hr
 have HR := Shut.mk hr
 rw [hr, hpr]
 clear hr hpr
 obtain ⟨n, hn⟩ : ∃ n, r.text.length + 1 = n := ⟨_, rfl⟩
 have HN := Shut.mk hn
 have hcat : (⟨r.text.toArray⟩ ++ ⟨#[10]⟩ : ByteArray) = ⟨(r.text ++ [10]).toArray⟩ := catB r.text [10]
 have hlen : (⟨(r.text ++ [10]).toArray⟩ : ByteArray).size = n := by simp [ByteArray.size]; omega
 have s1 : ¬ 9223372036854775807 < r.text.length + 1 := by omega
 obtain ⟨LN, hLN⟩ : ∃ LN : ByteArray, LN = ⟨(r.text ++ [10]).toArray⟩ := ⟨_, rfl⟩
 rw [← hLN] at hcat hlen
 have HLN := Shut.mk hLN
 clear hLN
 have hRm := hasRoom_any sa s.length sc wa v.length wc n W2 ls lv (by omega)
 simp only [dkV] at hRm
 have hk1 := blkB hb1 hB2
 obtain ⟨c0, c1, f0, f1⟩ := cellsD hk1
 go_wp2_with fail
 refine hRm.mono ?_
 rintro e W3 ⟨rfl, hb⟩
 have hB3 := hB2.trans (hb.mono hB2.size)
 have hF3 := hBW.trans (hB3.mono hBW.size)
 clear hRm hb hk1 hF2 hB2 c0 c1 f0 f1 hn
 have hk3 := blkB hb3 hB3
 by_cases hroom : s.length + v.length + n ≤ 60000
 case neg =>
  have HP : Shut (putCode s v r = 2) := ⟨by rw [putCode, if_pos HZ.out, if_pos HR.out, if_neg (by rw [HN.out]; exact hroom)]⟩
  rw [decide_eq_false hroom]
  clear hroom hs60 hts
  obtain ⟨c0, c1, f0, f1⟩ := cellsD hk3
  go_wp2
  obtain ⟨W9, hW9, hb9, hk9, hB9⟩ := box2 W3 (w.heap.size + 1 + 1) 43 _ _ (.slice none 0 0) (.slice none 0 0) hk3
  rw [hW9]
  have hF9 := hB9 _ _ (by omega) hF3
  clear hW9 hB9 c0 c1 f0 f1
  obtain ⟨c0, c1, f0, f1⟩ := cellsD hb9
  refine bodyPost_ret (v := .tuple #[dkV none 0 0 none 0 0, .int .i64 2]) (by simp [results, Tryz.results13, go_sem, dkV, c0, c1]) rfl ?_
  exact ⟨PutR.bad HP.out (by decide) rfl, hF9⟩
 have HP : Shut (putCode s v r = 0) := ⟨by rw [putCode, if_pos HZ.out, if_pos HR.out, if_pos (by rw [HN.out]; exact hroom)]⟩
 rw [decide_eq_true hroom]
 have hk1 := blkB hb1 hB3
 have hs3 := h1.below hB3 (Nat.le_refl _)
 have hv3 := h2.below hB3 (Nat.le_refl _)
 have hconv : ∀ W', (convert 9 35 (.string LN)).run Tryz.prog W' = .ok (.slice (some ⟨W'.heap.size, 0, none⟩) LN.size (grownCap W' LN.size 0 5)) (Lib.bytesWorld W' 5 LN) := fun W' => Lib.run_convert_string_bytes W' 9 35 5 LN Tryz.underlying9 Tryz.underlying35 Tryz.underlying5
 rw [hlen] at hconv
 obtain ⟨vn, hvn⟩ : ∃ vn, (v ++ (r.text ++ [10])).length = vn := ⟨_, rfl⟩
 have HVN := Shut.mk hvn
 clear hvn
 have hCl : ∀ W', Below W3.heap.size W3 W' → Calls Tryz.prog 40 #[.slice sa s.length sc] W' fun e w' => ∃ x, e = .returned x ∧ (IsBytes W3.heap.size s.length s x w' ∧ Below W'.heap.size W' w' ∧ Below W3.heap.size W3 w') := fun W' hb => (cloneDk_any sa sc s W' (by omega) (hs3.below hb (Nat.le_refl _))).mono fun _ _ ⟨⟨p', c', e1, e2, e3, e9⟩, h⟩ => ⟨_, e1, ⟨p', c', rfl, e2, e3, fun b o e => Nat.le_trans hb.size (e9 b o e)⟩, h, hb.trans (h.mono hb.size)⟩
 have hJo : ∀ (W' : World) (g c : Nat), Below W3.heap.size W3 W' → Lies W' (some ⟨g, 0, none⟩) (bs (r.text ++ [10])) → Calls Tryz.prog 41 #[.slice wa v.length wc, .slice (some ⟨g, 0, none⟩) n c] W' fun e w' => ∃ x, e = .returned x ∧ (IsBytes W3.heap.size vn (v ++ (r.text ++ [10])) x w' ∧ Below W'.heap.size W' w' ∧ Below W3.heap.size W3 w') := by
  intro W' g c hb hl
  have e1 : (r.text ++ [10]).length = n := by rw [List.length_append, ← HN.out]; rfl
  have h := joinedD_any wa wc v (some ⟨g, 0, none⟩) c (r.text ++ [10]) W' (by omega) (by omega) (hv3.below hb (Nat.le_refl _)) hl
  rw [e1] at h
  refine h.mono ?_
  rintro e w' ⟨⟨p', c', e2, e3, e4, e9⟩, h⟩
  have e5 : vn = v.length + n := by rw [← HVN.out, List.length_append, e1]
  exact ⟨_, e2, ⟨p', c', by rw [e5], by rw [e5]; exact e3, e4, fun b o e => Nat.le_trans hb.size (e9 b o e)⟩, h, hb.trans (h.mono hb.size)⟩
 have hbw : ∀ W', Below W'.heap.size W' (Lib.bytesWorld W' 5 LN) := fun W' => Joins.below_bytesWorld _ W' _ LN (Nat.le_refl _)
 have hlw : ∀ W', Lies (Lib.bytesWorld W' 5 LN) (some ⟨W'.heap.size, 0, none⟩) (bs (r.text ++ [10])) := fun W' => by rw [HLN.out]; exact lies_bytesWorld W' _
 have HR4 : ∀ W', Below W3.heap.size W3 W' → W'.cell? ⟨w.heap.size, 0, none⟩ = some (.slice sa s.length sc) ∧ W'.cell? ⟨w.heap.size, 1, none⟩ = some (.slice wa v.length wc) ∧ W'.cell? ⟨w.heap.size + 1 + 1, 0, none⟩ = some (.slice none 0 0) ∧ W'.cell? ⟨w.heap.size + 1 + 1, 1, none⟩ = some (.slice none 0 0) ∧ W'.frozen? ⟨w.heap.size + 1 + 1, 0, none⟩ = false ∧ W'.frozen? ⟨w.heap.size + 1 + 1, 1, none⟩ = false := fun W' hb => by
  obtain ⟨a1, a2, _, _⟩ := cellsD (blkB hk1 hb)
  obtain ⟨a3, a4, a5, a6⟩ := cellsD (blkB hk3 hb)
  exact ⟨a1, a2, a3, a4, a5, a6⟩
 have B0 : Below W3.heap.size W3 W3.drew := (Below.refl _ _).drew
 have B1 : Below W3.heap.size W3 (Lib.bytesWorld W3.drew 5 LN) := B0.trans (hbw W3.drew)
 have L1 : Lies (Lib.bytesWorld W3.drew 5 LN) (some ⟨W3.heap.size, 0, none⟩) (bs (r.text ++ [10])) := hlw W3.drew
 have hsW : W3.drew.heap.size = W3.heap.size := rfl
 clear hroom hs60 hts hB3 h1 h2 hs3 hv3 hcat s1
 go_upto_region 10 with fail
 obtain ⟨c0, c1, d0, d1, g0, g1⟩ := HR4 _ B0
 obtain ⟨k0, k1, _, _, _, _⟩ := HR4 _ B1
 have eg1 := entersClone
 have eg2 := entersJoined
 go_region_law (first
  | (refine step_call1 entersClone rfl (.tmp 34) 35 rfl (.slice sa s.length sc) (by simp [Act.eval, Act.put]) (hCl _ (by with_reducible assumption)) ?_; rintro _ wk ⟨⟨pk, ck, rfl, hck, hlk, hfk⟩, hbk, B2⟩; have B3 : Below W3.heap.size W3 (Lib.bytesWorld wk 5 LN) := B2.trans ((hbw wk).mono B2.size); have L2 := hlw wk; obtain ⟨x0, x1, _, _, _, _⟩ := HR4 _ B2; obtain ⟨x2, x3, _, _, _, _⟩ := HR4 _ B3)
  | (refine step_call2 entersJoined rfl (.tmp 37) (.tmp 39) 35 35 rfl _ _ rfl rfl (hJo _ _ _ B3 L2) ?_; rintro _ wj ⟨hj, hbj, B5⟩; have B4 : Below wk.heap.size wk wj := (hbw wk).trans (hbj.mono (hbw wk).size); obtain ⟨pj, cj, rfl, hcj, hlj, hfj⟩ := hj; obtain ⟨y0, y1, y2, y3, y4, y5⟩ := HR4 _ B5)
  | (refine step_call2 entersJoined rfl (.tmp 37) (.tmp 39) 35 35 rfl _ _ rfl rfl (hJo _ _ _ B2 (L1.below hbk (Nat.le_refl _))) ?_; rintro _ wj ⟨hj, hbj, B5⟩; have B4 : Below wk.heap.size wk wj := hbj; obtain ⟨pj, cj, rfl, hcj, hlj, hfj⟩ := hj; obtain ⟨y0, y1, y2, y3, y4, y5⟩ := HR4 _ B5))
 all_goals
  have hk5 := blkB hk3 B5
  have hlt : w.heap.size + 1 + 1 < W3.heap.size := (Array.getElem?_eq_some_iff.1 hk3).1
  have hlk5 := hlk.below B4 (Nat.le_refl _)
  have hF5 := hF3.trans (B5.mono hF3.size)
  clear hCl hJo hconv hbw hlw HR4 B0 B1 B2 B3 B4 B5 L1 L2 hbk hbj x0 x1 x2 x3 y0 y1 y2 y3 y4 y5 k0 k1 c0 c1 d0 d1 g0 g1 hlk eg1 eg2
  go_wp2
  obtain ⟨W9, hW9, hb9, hk9, hB9⟩ := box2 wj (w.heap.size + 1 + 1) 43 _ _ (.slice pk s.length ck) (.slice pj vn cj) hk5
  rw [hW9]
  have hF9 := hB9 _ _ (by omega) hF5
  clear hW9 hB9
  obtain ⟨c0, c1, f0, f1⟩ := cellsD hb9
  refine bodyPost_ret (v := .tuple #[dkV pk s.length ck pj vn cj, .int .i64 0]) (by simp [results, Tryz.results13, go_sem, dkV, c0, c1]) rfl ?_
  exact ⟨PutR.good HP.out ⟨pk, ck, pj, cj, by rw [HVN.out], hck, by rw [HVN.out]; exact hcj, liesFar hlk5 hk9 (fun b o e => by have := hfk b o e; omega), liesFar hlj hk9 (fun b o e => by have := hfj b o e; omega), fun b o e => by have := hfk b o e; omega, fun b o e => by have := hfj b o e; omega⟩, hF9⟩

def syncCode (s v : List UInt8) : Int := if dkCode s v = 0 then dkCode (s ++ v) [] else dkCode s v

def SyncR (B : Nat) (s v : List UInt8) (e : Ending) (w' : World) : Prop := DiskR B (syncCode s v) (if syncCode s v = 0 then s ++ v else []) [] e w'

theorem SyncR.bad {B : Nat} {s v : List UInt8} {z : Int} {e : Ending} {w' : World} (h : syncCode s v = z) (hz : z ≠ 0) (he : e = .returned (.tuple #[dkV none 0 0 none 0 0, .int .i64 z])) : SyncR B s v e w' := by
 unfold SyncR
 rw [h, if_neg hz]
 exact DiskR.none he

theorem SyncR.good {B : Nat} {s v : List UInt8} {e : Ending} {w' : World} (h : syncCode s v = 0) (he : DiskR B 0 (s ++ v) [] e w') : SyncR B s v e w' := by
 unfold SyncR
 rw [h, if_pos rfl]
 exact he

set_option maxHeartbeats 4000000 in
set_option maxRecDepth 8000 in
theorem syncD_any (sa : Option Addr) (sc : Nat) (wa : Option Addr) (wc : Nat) (s v : List UInt8) (w : World) (ls : s.length ≤ 9223372036854775807) (lv : v.length ≤ 9223372036854775807) (hsc : s.length ≤ sc) (h1 : Lies w sa (bs s)) (h2 : Lies w wa (bs v)) (hL : LaidN w) :
  Calls Tryz.prog 14 #[dkV sa s.length sc wa v.length wc] w fun e w' => SyncR w.heap.size s v e w' ∧ Below w.heap.size w w' := by
 obtain ⟨W, hW⟩ : ∃ W, (w.alloc (.cells #[.slice sa s.length sc, .slice wa v.length wc] 43)).alloc (.cells #[.slice none 0 0, .slice none 0 0] 43) = W := ⟨_, rfl⟩
 have hBW : Below w.heap.size w W := by rw [← hW]; exact ((Below.refl _ _).alloc (Nat.le_refl _) _).alloc (by simp) _
 have hb1 : W.heap[w.heap.size]? = some (.cells #[.slice sa s.length sc, .slice wa v.length wc] 43 (0, 0)) := by rw [← hW, heap_alloc_eq, if_neg (by simp), heap_alloc_eq, if_pos rfl]
 have hb3 : W.heap[w.heap.size + 1]? = some (.cells #[.slice none 0 0, .slice none 0 0] 43 (0, 0)) := by rw [← hW, heap_alloc_eq, if_pos (by simp)]
 replace h1 := Lies.below hBW h1 (Nat.le_refl _)
 replace h2 := Lies.below hBW h2 (Nat.le_refl _)
 have hLW := hL.below hBW
 have hC := checkD_any sa sc wa wc s v W ls lv hsc h1 hLW
 simp only [dkV] at hC ⊢
 clear hL
 obtain ⟨c0, c1, f0, f1⟩ := cellsD hb1
 go_enter Tryz.func14, Tryz.ntmps14
 go_wp2_with fail
 refine hC.mono ?_
 rintro e W1 ⟨rfl, hB1⟩
 clear hC hW c0 c1 f0 f1
 have hF1 := hBW.trans (hB1.mono hBW.size)
 have hk1 := blkB hb1 hB1
 have hk3 := blkB hb3 hB1
 by_cases hz : dkCode s v = 0
 case neg =>
  have bz : (dkCode s v != 0) = true := by simpa using hz
  have HP : Shut (syncCode s v = dkCode s v ∧ dkCode s v ≠ 0) := ⟨by rw [syncCode, if_neg hz], hz⟩
  clear hz
  generalize dkCode s v = z at bz HP ⊢
  obtain ⟨c0, c1, f0, f1⟩ := cellsD hk3
  go_wp2
  obtain ⟨W9, hW9, hb9, hk9, hB9⟩ := box2 W1 (w.heap.size + 1) 43 _ _ (.slice none 0 0) (.slice none 0 0) hk3
  rw [hW9]
  have hF9 := hB9 _ _ (by omega) hF1
  clear hW9 hB9 c0 c1 f0 f1
  obtain ⟨c0, c1, f0, f1⟩ := cellsD hb9
  refine bodyPost_ret (v := .tuple #[dkV none 0 0 none 0 0, .int .i64 z]) (by simp [results, Tryz.results14, go_sem, dkV, c0, c1]) rfl ?_
  exact ⟨SyncR.bad HP.out.1 HP.out.2 rfl, hF9⟩
 rw [hz]
 have hs60 : s.length + v.length ≤ 60000 := by
  rw [dkCode] at hz
  split at hz
  ·cases hz
  ·omega
 have HZ := Shut.mk hz
 clear hz
 have hJ := joinedD_any sa sc s wa wc v W1 (by omega) (by omega) (h1.below hB1 (Nat.le_refl _)) (h2.below hB1 (Nat.le_refl _))
 obtain ⟨n, hn⟩ : ∃ n, s.length + v.length = n := ⟨_, rfl⟩
 rw [hn] at hJ hs60
 have hsv : (s ++ v).length = n := by rw [List.length_append, hn]
 have HSV := Shut.mk hsv
 clear hn hsv
 obtain ⟨c0, c1, f0, f1⟩ := cellsD hk1
 go_wp2_with fail
 refine hJ.mono ?_
 rintro e W2 ⟨⟨pj, cj, rfl, hcj, hlj, hfj⟩, hb2⟩
 have hk3' := blkB hk3 hb2
 have hF2 := hF1.trans (hb2.mono hF1.size)
 have hL2 := (hLW.below hB1).below hb2
 have HFJ : Shut (∀ b o, pj = some ⟨b, o, none⟩ → w.heap.size + 1 < b) := ⟨fun b o e => by have := hfj b o e; have := (Array.getElem?_eq_some_iff.1 hk3).1; omega⟩
 clear hfj
 clear hJ hb2 hk1 hk3 c0 c1 f0 f1 hF1 hB1
 go_upto_region 5 with fail
 generalize hW3 : W2.alloc (.cells #[.slice pj n cj, .slice none 0 0] 43) = W3
 have hb3' : Below W2.heap.size W2 W3 := by rw [← hW3]; exact (Below.refl _ _).alloc (Nat.le_refl _) _
 have hq3 : W3.heap[W2.heap.size]? = some (.cells #[.slice pj n cj, .slice none 0 0] 43 (0, 0)) := by rw [← hW3, heap_alloc_eq, if_pos rfl]
 have hk3 := blkB hk3' hb3'
 have hF3 := hF2.trans (hb3'.mono hF2.size)
 have hlj3 := hlj.below hb3' (Nat.le_refl _)
 have hC2 := checkD_any pj cj none 0 (s ++ v) [] W3 (by rw [HSV.out]; omega) (by simp) (by rw [HSV.out]; exact hcj) hlj3 (hL2.below hb3')
 rw [HSV.out] at hC2
 simp only [dkV, List.length_nil] at hC2
 clear hW3 hb3' hk3' hlj hL2 hF2
 obtain ⟨c0, c1, f0, f1⟩ := cellsD hq3
 go_wp2_with fail
 refine hC2.mono ?_
 rintro e W4 ⟨rfl, hb4⟩
 have hq4 := blkB hq3 hb4
 have hk4 := blkB hk3 hb4
 have hF4 := hF3.trans (hb4.mono hF3.size)
 have hlj4 := hlj3.below hb4 (Nat.le_refl _)
 have hlt : w.heap.size + 1 < W1.heap.size ∨ True := Or.inr trivial
 clear hC2 hb4 hq3 hk3 hF3 hlj3 c0 c1 f0 f1 hlt
 by_cases hy : dkCode (s ++ v) [] = 0
 case neg =>
  have by' : (dkCode (s ++ v) [] != 0) = true := by simpa using hy
  have HP : Shut (syncCode s v = dkCode (s ++ v) [] ∧ dkCode (s ++ v) [] ≠ 0) := ⟨by rw [syncCode, if_pos HZ.out], hy⟩
  clear hy
  generalize dkCode (s ++ v) [] = z at by' HP ⊢
  obtain ⟨c0, c1, f0, f1⟩ := cellsD hk4
  go_wp2
  obtain ⟨W9, hW9, hb9, hk9, hB9⟩ := box2 W4 (w.heap.size + 1) 43 _ _ (.slice none 0 0) (.slice none 0 0) hk4
  rw [hW9]
  have hF9 := hB9 _ _ (by omega) hF4
  clear hW9 hB9 c0 c1 f0 f1
  obtain ⟨c0, c1, f0, f1⟩ := cellsD hb9
  refine bodyPost_ret (v := .tuple #[dkV none 0 0 none 0 0, .int .i64 z]) (by simp [results, Tryz.results14, go_sem, dkV, c0, c1]) rfl ?_
  exact ⟨SyncR.bad HP.out.1 HP.out.2 rfl, hF9⟩
 have HP : Shut (syncCode s v = 0) := ⟨by rw [syncCode, if_pos HZ.out, hy]⟩
 rw [hy]
 clear hy
 obtain ⟨a0, a1, _, _⟩ := cellsD hq4
 obtain ⟨c0, c1, f0, f1⟩ := cellsD hk4
 go_wp2
 obtain ⟨W9, hW9, hb9, hk9, hB9⟩ := box2 W4 (w.heap.size + 1) 43 _ _ (.slice pj n cj) (.slice none 0 0) hk4
 rw [hW9]
 have hF9 := hB9 _ _ (by omega) hF4
 clear hW9 hB9 c0 c1 f0 f1
 obtain ⟨c0, c1, f0, f1⟩ := cellsD hb9
 refine bodyPost_ret (v := .tuple #[dkV pj n cj none 0 0, .int .i64 0]) (by simp [results, Tryz.results14, go_sem, dkV, c0, c1]) rfl ?_
 exact ⟨SyncR.good HP.out ⟨pj, cj, none, 0, by rw [HSV.out]; rfl, by rw [HSV.out]; exact hcj, Nat.le_refl _, liesFar hlj4 hk9 (fun b o e => Nat.ne_of_gt (HFJ.out b o e)), Lies.nil _ _, fun b o e => by have := HFJ.out b o e; omega, fun b o e => by cases e⟩, hF9⟩

def crashCode (s v : List UInt8) (n : Int) : Int := if dkCode s v = 0 then if n < 0 ∨ (v.length : Int) < n then 3 else 0 else dkCode s v

def CrashR (B : Nat) (s v : List UInt8) (n : Int) (e : Ending) (w' : World) : Prop := DiskR B (crashCode s v n) (if crashCode s v n = 0 then s else []) (if crashCode s v n = 0 then v.take n.toNat else []) e w'

theorem CrashR.bad {B : Nat} {s v : List UInt8} {n z : Int} {e : Ending} {w' : World} (h : crashCode s v n = z) (hz : z ≠ 0) (he : e = .returned (.tuple #[dkV none 0 0 none 0 0, .int .i64 z])) : CrashR B s v n e w' := by
 unfold CrashR
 rw [h, if_neg hz, if_neg hz]
 exact DiskR.none he

theorem CrashR.good {B : Nat} {s v : List UInt8} {n : Int} {e : Ending} {w' : World} (h : crashCode s v n = 0) (he : DiskR B 0 s (v.take n.toNat) e w') : CrashR B s v n e w' := by
 unfold CrashR
 rw [h, if_pos rfl, if_pos rfl]
 exact he

theorem lies_takeB {w : World} {p : Option Addr} {l : List UInt8} (m : Nat) (h : Lies w p (bs l)) : Lies w p (bs (l.take m)) := by
 intro k u hu
 refine h k u ?_
 rw [bs, List.map_take, List.getElem?_take] at hu
 split at hu
 ·exact hu
 ·cases hu

end Go.Proofs.YtakkajjoeimkdaaGreatDoor
