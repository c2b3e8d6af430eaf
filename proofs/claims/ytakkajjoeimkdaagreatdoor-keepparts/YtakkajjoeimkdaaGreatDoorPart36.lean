import Derived.Test.YtakkajjoeimkdaaGreatDoorPart35
import Derived.Test.YtakkajjoeimkdaaGreatDoorPart29
import Derived.Test.YtakkajjoeimkdaaGreatDoorPart31
import Derived.Test.YtakkajjoeimkdaaGreatDoorPart6
import Derived.Test.YtakkajjoeimkdaaGreatDoorPart9
import Derived.Test.YtakkajjoeimkdaaGreatDoorPart28
import Derived.Test.YtakkajjoeimkdaaGreatDoorPart1
import Derived.Deep.CutBlock
namespace Go.Proofs.YtakkajjoeimkdaaGreatDoor
open Go.RowKit
set_option linter.unusedVariables false
set_option linter.unusedSimpArgs false

def RecovR (B : Nat) (s v : List UInt8) (e : Ending) (w' : World) : Prop :=
 (dkCode s v ≠ 0 ∧ e = .returned (.tuple #[dkV none 0 0 none 0 0, .slice none 0 0, .int .i64 (dkCode s v)])) ∨
 (dkCode s v = 0 ∧ ∃ (L : List MRec) (p : Option Addr) (cp : Nat) (sa : Option Addr) (sc m : Nat), e = .returned (.tuple #[dkV sa m sc none 0 0, .slice p L.length cp, .int .i64 0]) ∧ (linesL 200 (s ++ v)).2.1 = m ∧ L.map MRec.r = (linesL 200 (s ++ v)).1 ∧ L.length ≤ cp ∧ m ≤ sc ∧ Lies w' sa (bs ((s ++ v).take m)) ∧ Lies w' p (recCells L) ∧ (∀ y ∈ L, RecIn w' y ∧ RecNew B y) ∧ (∀ b o, sa = some ⟨b, o, none⟩ → B ≤ b) ∧ ∀ b o, p = some ⟨b, o, none⟩ → B ≤ b)

theorem RecIn.far {w w' : World} {g : Nat} {m : MRec} (h : RecIn w m) (hn : RecNew (g + 1) m) (hk : ∀ k, k ≠ g → w'.heap[k]? = w.heap[k]?) : RecIn w' m :=
 ⟨liesFar h.1 hk (fun b o e => by have := hn.1 b o e; omega), liesFar h.2 hk (fun b o e => by have := hn.2 b o e; omega)⟩

theorem RecNew.mono {B B' : Nat} {m : MRec} (h : RecNew B m) (hB : B' ≤ B) : RecNew B' m := ⟨fun b o e => Nat.le_trans hB (h.1 b o e), fun b o e => Nat.le_trans hB (h.2 b o e)⟩

set_option maxHeartbeats 4000000 in
set_option maxRecDepth 8000 in
theorem recovD_any (sa : Option Addr) (sc : Nat) (wa : Option Addr) (wc : Nat) (s v : List UInt8) (w : World) (ls : s.length ≤ 9223372036854775807) (lv : v.length ≤ 9223372036854775807) (hsc : s.length ≤ sc) (h1 : Lies w sa (bs s)) (h2 : Lies w wa (bs v)) (hL : LaidN w) :
  Calls Tryz.prog 15 #[dkV sa s.length sc wa v.length wc] w fun e w' => RecovR w.heap.size s v e w' ∧ Below w.heap.size w w' := by
 obtain ⟨W, hW⟩ : ∃ W, (w.alloc (.cells #[.slice sa s.length sc, .slice wa v.length wc] 43)).alloc (.cells #[.slice none 0 0, .slice none 0 0] 43) = W := ⟨_, rfl⟩
 have hBW : Below w.heap.size w W := by rw [← hW]; exact ((Below.refl _ _).alloc (Nat.le_refl _) _).alloc (by simp) _
 have hb1 : W.heap[w.heap.size]? = some (.cells #[.slice sa s.length sc, .slice wa v.length wc] 43 (0, 0)) := by rw [← hW, heap_alloc_eq, if_neg (by simp), heap_alloc_eq, if_pos rfl]
 have hb3 : W.heap[w.heap.size + 1]? = some (.cells #[.slice none 0 0, .slice none 0 0] 43 (0, 0)) := by rw [← hW, heap_alloc_eq, if_pos (by simp)]
 replace h1 := Lies.below hBW h1 (Nat.le_refl _)
 replace h2 := Lies.below hBW h2 (Nat.le_refl _)
 have hLW := hL.below hBW
 have hC := checkD_any sa sc wa wc s v W ls lv hsc h1 hLW
 simp only [dkV] at hC ⊢
 clear hL
 obtain ⟨c0, c1, f0, f1⟩ := cellsD hb1
 go_enter Tryz.func15, Tryz.ntmps15
 go_wp2_with fail
 refine hC.mono ?_
 rintro e W1 ⟨rfl, hB1⟩
 clear hC hW c0 c1 f0 f1
 have hF1 := hBW.trans (hB1.mono hBW.size)
 have hk1 := blkB hb1 hB1
 have hk3 := blkB hb3 hB1
 by_cases hz : dkCode s v = 0
 case neg =>
  have bz : (dkCode s v != 0) = true := by simpa using hz
  have HP : Shut (dkCode s v ≠ 0) := ⟨hz⟩
  obtain ⟨z, hz'⟩ : ∃ z, dkCode s v = z := ⟨_, rfl⟩
  have HQ := Shut.mk hz'
  clear hz
  rw [hz'] at bz ⊢
  clear hz'
  obtain ⟨c0, c1, f0, f1⟩ := cellsD hk3
  go_wp2
  obtain ⟨W9, hW9, hb9, hk9, hB9⟩ := box2 W1 (w.heap.size + 1) 43 _ _ (.slice none 0 0) (.slice none 0 0) hk3
  rw [hW9]
  have hF9 := hB9 _ _ (by omega) hF1
  clear hW9 hB9 c0 c1 f0 f1
  obtain ⟨c0, c1, f0, f1⟩ := cellsD hb9
  refine bodyPost_ret (v := .tuple #[dkV none 0 0 none 0 0, .slice none 0 0, .int .i64 z]) (by simp [results, Tryz.results15, go_sem, dkV, c0, c1]) rfl ?_
  exact ⟨Or.inl ⟨HP.out, by rw [HQ.out]⟩, hF9⟩
 rw [hz]
 have hs60 : s.length + v.length ≤ 60000 := by
  rw [dkCode] at hz
  split at hz
  ·cases hz
  ·omega
 have HZ := Shut.mk hz
 clear hz
 have hJ := joinedD_any sa sc s wa wc v W1 (by omega) (by omega) (h1.below hB1 (Nat.le_refl _)) (h2.below hB1 (Nat.le_refl _))
 obtain ⟨n, hn⟩ : ∃ n, s.length + v.length = n := ⟨_, rfl⟩
 rw [hn] at hJ hs60
 have hsv : (s ++ v).length = n := by rw [List.length_append, hn]
 have HSV := Shut.mk hsv
 clear hn hsv
 obtain ⟨c0, c1, f0, f1⟩ := cellsD hk1
 go_wp2_with fail
 refine hJ.mono ?_
 rintro e W2 ⟨⟨pj, cj, rfl, hcj, hlj, hfj⟩, hb2⟩
 have hk3' := blkB hk3 hb2
 have hF2 := hF1.trans (hb2.mono hF1.size)
 have hL2 := (hLW.below hB1).below hb2
 have hlt : w.heap.size + 1 < W2.heap.size := (Array.getElem?_eq_some_iff.1 hk3').1
 have hR := readD_any pj cj (s ++ v) W2 (by rw [HSV.out]; omega) (by rw [HSV.out]; exact hcj) hlj hL2
 rw [HSV.out] at hR
 clear hJ hb2 hk1 hk3 c0 c1 f0 f1 hF1 hB1 hfj
 go_wp2_with fail
 refine hR.mono ?_
 rintro e W3 ⟨hb3', L, p, cp, rfl, hmap, hLc, hlp, hall, hfp⟩
 have hk3 := blkB hk3' hb3'
 have hF3 := hF2.trans (hb3'.mono hF2.size)
 have hlj3 := hlj.below hb3' (Nat.le_refl _)
 have hsz := linesL_size 200 (s ++ v)
 obtain ⟨m, hm⟩ : ∃ m, (linesL 200 (s ++ v)).2.1 = m := ⟨_, rfl⟩
 rw [hm] at hsz ⊢
 rw [HSV.out] at hsz
 have HM := Shut.mk hm
 have HMAP := Shut.mk hmap
 have HALL := Shut.mk hall
 have HLT := Shut.mk hlt
 generalize (linesL 200 (s ++ v)).2.2 = z
 have htl : ((s ++ v).take m).length = m := by rw [List.length_take, HSV.out]; omega
 have hCl := cloneDk_any pj cj ((s ++ v).take m) W3 (by omega) (lies_takeB m hlj3)
 rw [htl] at hCl
 have hmc : m ≤ cj := by omega
 clear hR hk3' hlj hL2 hF2 hb3' hmap hall hm htl hlj3 hlt
 go_wp2_with fail
 refine hCl.mono ?_
 rintro e W4 ⟨⟨pk, ck, rfl, hck, hlk, hfk⟩, hb4⟩
 have hk4 := blkB hk3 hb4
 have hF4 := hF3.trans (hb4.mono hF3.size)
 have hlp4 := hlp.below hb4 (Nat.le_refl _)
 have HFK : Shut (∀ b o, pk = some ⟨b, o, none⟩ → w.heap.size + 1 < b) := ⟨fun b o e => by have := hfk b o e; have := (Array.getElem?_eq_some_iff.1 hk3).1; omega⟩
 have HFP : Shut (∀ b o, p = some ⟨b, o, none⟩ → w.heap.size + 1 < b) := ⟨fun b o e => by have := hfp b o e; have := HLT.out; omega⟩
 have HIN : Shut (∀ y ∈ L, RecIn W4 y ∧ RecNew (w.heap.size + 1 + 1) y) := ⟨fun y hy => ⟨(HALL.out y hy).1.below hb4, (HALL.out y hy).2.mono HLT.out⟩⟩
 clear hCl hb4 hk3 hF3 hlp hfk hfp
 obtain ⟨c0, c1, f0, f1⟩ := cellsD hk4
 go_wp2
 obtain ⟨W9, hW9, hb9, hk9, hB9⟩ := box2 W4 (w.heap.size + 1) 43 _ _ (.slice pk m ck) (.slice none 0 0) hk4
 rw [hW9]
 have hF9 := hB9 _ _ (by omega) hF4
 clear hW9 hB9 c0 c1 f0 f1
 obtain ⟨c0, c1, f0, f1⟩ := cellsD hb9
 refine bodyPost_ret (v := .tuple #[dkV pk m ck none 0 0, .slice p L.length cp, .int .i64 0]) (by simp [results, Tryz.results15, go_sem, dkV, c0, c1]) rfl ?_
 exact ⟨Or.inr ⟨HZ.out, L, p, cp, pk, ck, m, rfl, HM.out, HMAP.out, hLc, hck, liesFar hlk hk9 (fun b o e => Nat.ne_of_gt (HFK.out b o e)), liesFar hlp4 hk9 (fun b o e => Nat.ne_of_gt (HFP.out b o e)), fun y hy => ⟨(HIN.out y hy).1.far (HIN.out y hy).2 hk9, (HIN.out y hy).2.mono (by omega)⟩, fun b o e => by have := HFK.out b o e; omega, fun b o e => by have := HFP.out b o e; omega⟩, hF9⟩

structure DkIn (w : World) (s v : List UInt8) (sa : Option Addr) (n sc : Nat) (wa : Option Addr) (m wc : Nat) : Prop where
 hn : s.length = n
 hm : v.length = m
 hsc : n ≤ sc
 hwc : m ≤ wc
 ls : Lies w sa (bs s)
 lv : Lies w wa (bs v)

theorem DkIn.below {w w' : World} {s v : List UInt8} {sa : Option Addr} {n sc : Nat} {wa : Option Addr} {m wc : Nat} (h : DkIn w s v sa n sc wa m wc) (hb : Below w.heap.size w w') : DkIn w' s v sa n sc wa m wc :=
 ⟨h.hn, h.hm, h.hsc, h.hwc, h.ls.below hb (Nat.le_refl _), h.lv.below hb (Nat.le_refl _)⟩

theorem DkIn.far {w w' : World} {s v : List UInt8} {sa : Option Addr} {n sc : Nat} {wa : Option Addr} {m wc g : Nat} (h : DkIn w s v sa n sc wa m wc) (hk : ∀ k, k ≠ g → w'.heap[k]? = w.heap[k]?) (h1 : ∀ b o, sa = some ⟨b, o, none⟩ → g < b) (h2 : ∀ b o, wa = some ⟨b, o, none⟩ → g < b) : DkIn w' s v sa n sc wa m wc :=
 ⟨h.hn, h.hm, h.hsc, h.hwc, liesFar h.ls hk (fun b o e => Nat.ne_of_gt (h1 b o e)), liesFar h.lv hk (fun b o e => Nat.ne_of_gt (h2 b o e))⟩

def DkOut (B : Nat) (z : Int) (s v : List UInt8) (e : Ending) (w' : World) : Prop :=
 ∃ (sa : Option Addr) (n sc : Nat) (wa : Option Addr) (m wc : Nat), e = .returned (.tuple #[.agg #[.slice sa n sc, .slice wa m wc], .int .i64 z]) ∧ DkIn w' s v sa n sc wa m wc ∧ (∀ b o, sa = some ⟨b, o, none⟩ → B ≤ b) ∧ ∀ b o, wa = some ⟨b, o, none⟩ → B ≤ b

theorem DiskR.out {B : Nat} {z : Int} {s v : List UInt8} {e : Ending} {w' : World} (h : DiskR B z s v e w') : DkOut B z s v e w' := by
 obtain ⟨sa, sc, wa, wc, he, h1, h2, h3, h4, h5, h6⟩ := h
 exact ⟨sa, _, sc, wa, _, wc, he, ⟨rfl, rfl, h1, h2, h3, h4⟩, h5, h6⟩

def DkOk (s v : List UInt8) : Prop := s.length + v.length ≤ 60000 ∧ (linesL 200 s).2.2 = 0

theorem DkOk.code {s v : List UInt8} (h : DkOk s v) : dkCode s v = 0 := by
 have h1 := h.1
 rw [dkCode, if_neg (by omega)]
 exact h.2

section
variable {w : World} {s v : List UInt8} {sa : Option Addr} {n sc : Nat} {wa : Option Addr} {m wc : Nat}

theorem put_ok (h : DkIn w s v sa n sc wa m wc) (ok : DkOk s v) (r : Rc) (da : Option Addr) (dc : Nat) (ca : Option Addr) (cc : Nat) (hi : r.ints) (ld : r.d.length ≤ maxLen) (hd : Lies w da (bs r.d)) (hc : Lies w ca (bs r.c)) (hz : putCode s v r = 0) (hL : LaidN w) :
  Calls Tryz.prog 13 #[.agg #[.slice sa n sc, .slice wa m wc], rcV r da dc ca cc] w fun e w' => DkOut w.heap.size 0 s (v ++ (r.text ++ [10])) e w' ∧ Below w.heap.size w w' := by
 obtain ⟨rfl, rfl, h1, h2, h3, h4⟩ := h
 have h0 := ok.1
 refine (putD_any sa sc wa wc s v r da dc ca cc w (by omega) (by omega) h1 h3 h4 hi ld hd hc hL).mono ?_
 rintro e w' ⟨hp, hb⟩
 unfold PutR at hp
 rw [hz, if_pos rfl, if_pos rfl] at hp
 exact ⟨hp.out, hb⟩

theorem put_no (h : DkIn w s v sa n sc wa m wc) (ok : DkOk s v) (r : Rc) (da : Option Addr) (dc : Nat) (ca : Option Addr) (cc : Nat) (hi : r.ints) (ld : r.d.length ≤ maxLen) (hd : Lies w da (bs r.d)) (hc : Lies w ca (bs r.c)) (hz : putCode s v r ≠ 0) (hL : LaidN w) :
  Calls Tryz.prog 13 #[.agg #[.slice sa n sc, .slice wa m wc], rcV r da dc ca cc] w fun e w' => DkOut w.heap.size (putCode s v r) [] [] e w' ∧ Below w.heap.size w w' := by
 obtain ⟨rfl, rfl, h1, h2, h3, h4⟩ := h
 have h0 := ok.1
 refine (putD_any sa sc wa wc s v r da dc ca cc w (by omega) (by omega) h1 h3 h4 hi ld hd hc hL).mono ?_
 rintro e w' ⟨hp, hb⟩
 unfold PutR at hp
 rw [if_neg hz, if_neg hz] at hp
 exact ⟨hp.out, hb⟩

theorem sync_ok (h : DkIn w s v sa n sc wa m wc) (ok : DkOk s v) (ok2 : DkOk (s ++ v) []) (hL : LaidN w) :
  Calls Tryz.prog 14 #[.agg #[.slice sa n sc, .slice wa m wc]] w fun e w' => DkOut w.heap.size 0 (s ++ v) [] e w' ∧ Below w.heap.size w w' := by
 obtain ⟨rfl, rfl, h1, h2, h3, h4⟩ := h
 have h0 := ok.1
 have hz : syncCode s v = 0 := by rw [syncCode, if_pos ok.code, ok2.code]
 refine (syncD_any sa sc wa wc s v w (by omega) (by omega) h1 h3 h4 hL).mono ?_
 rintro e w' ⟨hp, hb⟩
 unfold SyncR at hp
 rw [hz, if_pos rfl] at hp
 exact ⟨hp.out, hb⟩

def RcOut (B : Nat) (t : List UInt8) (l : List Rc) (e : Ending) (w' : World) : Prop :=
 ∃ (L : List MRec) (q : Nat) (p : Option Addr) (cp : Nat) (sa : Option Addr) (n sc : Nat), e = .returned (.tuple #[.agg #[.slice sa n sc, .slice none 0 0], .slice p q cp, .int .i64 0]) ∧ L.length = q ∧ DkIn w' t [] sa n sc none 0 0 ∧ L.map MRec.r = l ∧ q ≤ cp ∧ Lies w' p (recCells L) ∧ (∀ y ∈ L, RecIn w' y ∧ RecNew B y) ∧ (∀ b o, sa = some ⟨b, o, none⟩ → B ≤ b) ∧ ∀ b o, p = some ⟨b, o, none⟩ → B ≤ b

theorem recov_ok (h : DkIn w s v sa n sc wa m wc) (ok : DkOk s v) (hL : LaidN w) :
  Calls Tryz.prog 15 #[.agg #[.slice sa n sc, .slice wa m wc]] w fun e w' => RcOut w.heap.size ((s ++ v).take (linesL 200 (s ++ v)).2.1) (linesL 200 (s ++ v)).1 e w' ∧ Below w.heap.size w w' := by
 obtain ⟨rfl, rfl, h1, h2, h3, h4⟩ := h
 have h0 := ok.1
 refine (recovD_any sa sc wa wc s v w (by omega) (by omega) h1 h3 h4 hL).mono ?_
 rintro e w' ⟨hp, hb⟩
 refine ⟨?_, hb⟩
 rcases hp with ⟨hz, _⟩ | ⟨_, L, p, cp, sa', sc', k, rfl, hk, e1, e2, e3, e4, e5, e6, e7, e8⟩
 ·exact absurd ok.code hz
 ·subst hk
  have hs := linesL_size 200 (s ++ v)
  exact ⟨L, _, p, cp, sa', _, sc', rfl, rfl, ⟨by rw [List.length_take]; omega, rfl, e3, Nat.le_refl _, e4, Lies.nil _ _⟩, e1, e2, e5, e6, e7, e8⟩

end

theorem linesT_snoc (l : List Rc) (r : Rc) : linesT (l ++ [r]) = linesT l ++ (r.text ++ [10]) := by
 rw [linesT_append]
 simp [linesT]

theorem DkOk.log {a : List Rc} {v : List UInt8} (ha : Goods a) (hl : a.length ≤ 200) (h : (linesT a).length + v.length ≤ 60000) : DkOk (linesT a) v :=
 ⟨h, by rw [linesL_log a ha hl]⟩

theorem putCode_room {a : List Rc} {v : List UInt8} {r : Rc} (hz : putCode (linesT a) v r = 0) (ok : DkOk (linesT a) v) : r.code = 0 ∧ (linesT a).length + (v ++ (r.text ++ [10])).length ≤ 60000 := by
 rw [putCode, if_pos ok.code] at hz
 split at hz
 ·rename_i hr
  split at hz
  ·rename_i hl
   exact ⟨hr, by simp only [List.length_append, List.length_singleton]; omega⟩
  ·cases hz
 ·rename_i hr
  exact absurd hz hr

set_option maxHeartbeats 2000000 in
set_option maxRecDepth 8000 in
theorem equalRec_any (f : Nat) (eg : ∀ args w, (callFunc f args).run Tryz.prog w = .ok (.enter f args) w)
  (hf : ∀ (x y : MRec) (w : World), RecIn w x → RecIn w y → RecShort x → RecShort y → Calls Tryz.prog f #[x.val, y.val] w fun e w' => e = .returned (.bool (decide (x.r = y.r))) ∧ Below w.heap.size w w')
  (a b : Option Addr) (ca cb : Nat) (xl yl : List MRec) (w : World) (hx : xl.length ≤ 65536) (hy : yl.length ≤ 65536) (ha : Lies w a (recCells xl)) (hb : Lies w b (recCells yl)) (hxa : ∀ y ∈ xl, RecIn w y ∧ RecShort y) (hya : ∀ y ∈ yl, RecIn w y ∧ RecShort y) :
  Calls Tryz.prog 17 #[.slice a xl.length ca, .slice b yl.length cb, .func (.func f) #[] #[]] w fun e w' => e = .returned (.bool (decide (xl.map MRec.r = yl.map MRec.r))) ∧ Below w.heap.size w w' := by
 obtain ⟨N, hN⟩ : ∃ N, decide (xl.map MRec.r = yl.map MRec.r) = N := ⟨_, rfl⟩
 rw [hN]
 have sN := Shut.mk hN
 have HF := Shut.mk hf
 clear hN hf
 by_cases hl : xl.length = yl.length
 ·obtain ⟨n, hn⟩ : ∃ n, xl.length = n := ⟨_, rfl⟩
  have hn2 : yl.length = n := by omega
  have HL := Shut.mk (And.intro hn hn2)
  rw [hn, hn2]
  rw [hn] at hx
  clear hl hn hn2 hy
  go_enter Tryz.func17, Tryz.ntmps17
  go_wp2
  go_loopw [17] (fun i wr => ∃ k : Nat, k ≤ n ∧ i = .int .i64 k ∧ Shut ((xl.map MRec.r).take k = (yl.map MRec.r).take k ∧ Below w.heap.size w wr)) (fun i _ => n - (intOf i).toNat)
  case atStart => exact ⟨0, Nat.zero_le _, rfl, ⟨rfl, Below.refl _ _⟩⟩
  case round =>
   obtain ⟨k, hk, rfl, HI⟩ := hrel
   obtain ⟨htk, hbr⟩ := HI.out
   by_cases hlt : k < n
   ·obtain ⟨b1, o1, rfl⟩ := ha.some (k := 0) (by rw [recCells_length, HL.out.1]; omega)
    obtain ⟨b2, o2, rfl⟩ := hb.some (k := 0) (by rw [recCells_length, HL.out.2]; omega)
    obtain ⟨x, hxk⟩ : ∃ x, xl[k]? = some x := ⟨_, List.getElem?_eq_getElem (by rw [HL.out.1]; exact hlt)⟩
    obtain ⟨y, hyk⟩ : ∃ y, yl[k]? = some y := ⟨_, List.getElem?_eq_getElem (by rw [HL.out.2]; exact hlt)⟩
    have h1 := And.intro (ha.below hbr (Nat.le_refl _)) hxk
    have h2 := And.intro (hb.below hbr (Nat.le_refl _)) hyk
    obtain ⟨hx1, hx2⟩ := hxa x (List.mem_of_getElem? hxk)
    obtain ⟨hy1, hy2⟩ := hya y (List.mem_of_getElem? hyk)
    have HK : Shut ((xl.map MRec.r).take k = (yl.map MRec.r).take k ∧ xl[k]? = some x ∧ yl[k]? = some y) := ⟨htk, hxk, hyk⟩
    clear htk hxk hyk HI
    have p0 : wr.cell? ⟨b1, o1 + k * 13, none⟩ = some (.int .i64 x.r.k) := recs_cell h1 0 rfl
    have p1 : wr.cell? ⟨b1, o1 + k * 13 + 1, none⟩ = some (.int .i64 x.r.p) := recs_cell h1 1 rfl
    have p2 : wr.cell? ⟨b1, o1 + k * 13 + 2, none⟩ = some (.int .i64 x.r.n) := recs_cell h1 2 rfl
    have p3 : wr.cell? ⟨b1, o1 + k * 13 + 3, none⟩ = some (.int .i64 x.r.y) := recs_cell h1 3 rfl
    have p4 : wr.cell? ⟨b1, o1 + k * 13 + 4, none⟩ = some (.int .i64 x.r.h.F) := recs_cell h1 4 rfl
    have p5 : wr.cell? ⟨b1, o1 + k * 13 + 5, none⟩ = some (.int .i64 x.r.h.Q) := recs_cell h1 5 rfl
    have p6 : wr.cell? ⟨b1, o1 + k * 13 + 6, none⟩ = some (.int .i64 x.r.h.T) := recs_cell h1 6 rfl
    have p7 : wr.cell? ⟨b1, o1 + k * 13 + 7, none⟩ = some (.int .i64 x.r.h.L) := recs_cell h1 7 rfl
    have p8 : wr.cell? ⟨b1, o1 + k * 13 + 8, none⟩ = some (.int .i64 x.r.h.B) := recs_cell h1 8 rfl
    have p9 : wr.cell? ⟨b1, o1 + k * 13 + 9, none⟩ = some (.int .i64 x.r.h.K) := recs_cell h1 9 rfl
    have p10 : wr.cell? ⟨b1, o1 + k * 13 + 10, none⟩ = some (.int .i64 x.r.id) := recs_cell h1 10 rfl
    have p11 : wr.cell? ⟨b1, o1 + k * 13 + 11, none⟩ = some (.slice x.da x.r.d.length x.dc) := recs_cell h1 11 rfl
    have p12 : wr.cell? ⟨b1, o1 + k * 13 + 12, none⟩ = some (.slice x.ca x.r.c.length x.cc) := recs_cell h1 12 rfl
    go_upto_region 6 with fail
    generalize hW1 : wr.alloc (.cells #[.int .i64 x.r.k, .int .i64 x.r.p, .int .i64 x.r.n, .int .i64 x.r.y, .int .i64 x.r.h.F, .int .i64 x.r.h.Q, .int .i64 x.r.h.T, .int .i64 x.r.h.L, .int .i64 x.r.h.B, .int .i64 x.r.h.K, .int .i64 x.r.id, .slice x.da x.r.d.length x.dc, .slice x.ca x.r.c.length x.cc] 40) = W1
    have hb1 : Below wr.heap.size wr W1 := by rw [← hW1]; exact (Below.refl _ _).alloc (Nat.le_refl _) _
    have hq1 : W1.heap[wr.heap.size]? = some (.cells #[.int .i64 x.r.k, .int .i64 x.r.p, .int .i64 x.r.n, .int .i64 x.r.y, .int .i64 x.r.h.F, .int .i64 x.r.h.Q, .int .i64 x.r.h.T, .int .i64 x.r.h.L, .int .i64 x.r.h.B, .int .i64 x.r.h.K, .int .i64 x.r.id, .slice x.da x.r.d.length x.dc, .slice x.ca x.r.c.length x.cc] 40 (0, 0)) := by rw [← hW1, heap_alloc_eq, if_pos rfl]
    have h3 := And.intro (h2.1.below hb1 (Nat.le_refl _)) h2.2
    clear hW1 h1 h2 p0 p1 p2 p3 p4 p5 p6 p7 p8 p9 p10 p11 p12
    have p0 : W1.cell? ⟨b2, o2 + k * 13, none⟩ = some (.int .i64 y.r.k) := recs_cell h3 0 rfl
    have p1 : W1.cell? ⟨b2, o2 + k * 13 + 1, none⟩ = some (.int .i64 y.r.p) := recs_cell h3 1 rfl
    have p2 : W1.cell? ⟨b2, o2 + k * 13 + 2, none⟩ = some (.int .i64 y.r.n) := recs_cell h3 2 rfl
    have p3 : W1.cell? ⟨b2, o2 + k * 13 + 3, none⟩ = some (.int .i64 y.r.y) := recs_cell h3 3 rfl
    have p4 : W1.cell? ⟨b2, o2 + k * 13 + 4, none⟩ = some (.int .i64 y.r.h.F) := recs_cell h3 4 rfl
    have p5 : W1.cell? ⟨b2, o2 + k * 13 + 5, none⟩ = some (.int .i64 y.r.h.Q) := recs_cell h3 5 rfl
    have p6 : W1.cell? ⟨b2, o2 + k * 13 + 6, none⟩ = some (.int .i64 y.r.h.T) := recs_cell h3 6 rfl
    have p7 : W1.cell? ⟨b2, o2 + k * 13 + 7, none⟩ = some (.int .i64 y.r.h.L) := recs_cell h3 7 rfl
    have p8 : W1.cell? ⟨b2, o2 + k * 13 + 8, none⟩ = some (.int .i64 y.r.h.B) := recs_cell h3 8 rfl
    have p9 : W1.cell? ⟨b2, o2 + k * 13 + 9, none⟩ = some (.int .i64 y.r.h.K) := recs_cell h3 9 rfl
    have p10 : W1.cell? ⟨b2, o2 + k * 13 + 10, none⟩ = some (.int .i64 y.r.id) := recs_cell h3 10 rfl
    have p11 : W1.cell? ⟨b2, o2 + k * 13 + 11, none⟩ = some (.slice y.da y.r.d.length y.dc) := recs_cell h3 11 rfl
    have p12 : W1.cell? ⟨b2, o2 + k * 13 + 12, none⟩ = some (.slice y.ca y.r.c.length y.cc) := recs_cell h3 12 rfl
    go_upto_region 7 with fail
    generalize hW2 : W1.alloc (.cells #[.int .i64 y.r.k, .int .i64 y.r.p, .int .i64 y.r.n, .int .i64 y.r.y, .int .i64 y.r.h.F, .int .i64 y.r.h.Q, .int .i64 y.r.h.T, .int .i64 y.r.h.L, .int .i64 y.r.h.B, .int .i64 y.r.h.K, .int .i64 y.r.id, .slice y.da y.r.d.length y.dc, .slice y.ca y.r.c.length y.cc] 40) = W2
    have hb2 : Below W1.heap.size W1 W2 := by rw [← hW2]; exact (Below.refl _ _).alloc (Nat.le_refl _) _
    have hq2 : W2.heap[W1.heap.size]? = some (.cells #[.int .i64 y.r.k, .int .i64 y.r.p, .int .i64 y.r.n, .int .i64 y.r.y, .int .i64 y.r.h.F, .int .i64 y.r.h.Q, .int .i64 y.r.h.T, .int .i64 y.r.h.L, .int .i64 y.r.h.B, .int .i64 y.r.h.K, .int .i64 y.r.id, .slice y.da y.r.d.length y.dc, .slice y.ca y.r.c.length y.cc] 40 (0, 0)) := by rw [← hW2, heap_alloc_eq, if_pos rfl]
    have hq3 := blkB hq1 hb2
    have hB2 := (hbr.trans (hb1.mono hbr.size)).trans (hb2.mono (hbr.trans (hb1.mono hbr.size)).size)
    have hC := HF.out x y W2 (hx1.below hB2) (hy1.below hB2) hx2 hy2
    simp only [MRec.val, rcV] at hC
    clear hW2 h3 hq1 hb1 hb2 hx1 hy1 hx2 hy2 p0 p1 p2 p3 p4 p5 p6 p7 p8 p9 p10 p11 p12
    obtain ⟨p0, p1, p2, p3, p4, p5, p6, p7, p8, p9, p10, p11, p12⟩ := bx13 hq3
    obtain ⟨q0, q1, q2, q3, q4, q5, q6, q7, q8, q9, q10, q11, q12⟩ := bx13 hq2
    go_wp2_with fail
    refine hC.mono ?_
    rintro e W3 ⟨rfl, hb3⟩
    have hB3 := hB2.trans (hb3.mono hB2.size)
    clear hC hb3 hq2 hq3 hB2 p0 q0 p1 q1 p2 q2 p3 q3 p4 q4 p5 q5 p6 q6 p7 q7 p8 q8 p9 q9 p10 q10 p11 q11 p12 q12
    by_cases hd : x.r = y.r
    ·have R : Shut ((xl.map MRec.r).take (k + 1) = (yl.map MRec.r).take (k + 1) ∧ Below w.heap.size w W3) := ⟨by
      rw [List.take_add_one, List.take_add_one, HK.out.1, List.getElem?_map, List.getElem?_map, HK.out.2.1, HK.out.2.2]
      simp [hd], hB3⟩
     rw [decide_eq_true hd]
     clear hd hB3
     go_wp2
     go_roundw
     case rel => exact ⟨k + 1, by omega, by go_num, R⟩
     case measure => simp [intOf]; omega
    ·have HD : Shut (N = false) := ⟨by
      rw [← sN.out]
      refine decide_eq_false fun e => hd ?_
      have h1 : (xl.map MRec.r)[k]? = (yl.map MRec.r)[k]? := by rw [e]
      rw [List.getElem?_map, List.getElem?_map, HK.out.2.1, HK.out.2.2] at h1
      simpa using h1⟩
     rw [decide_eq_false hd]
     clear hd
     go_wp2
     go_ret
     exact ⟨by rw [HD.out]; rfl, hB3⟩
   ·have HD : Shut (N = true) := ⟨by
     rw [← sN.out]
     refine decide_eq_true ?_
     rw [List.take_of_length_le (by rw [List.length_map, HL.out.1]; omega), List.take_of_length_le (by rw [List.length_map, HL.out.2]; omega)] at htk
     exact htk⟩
    clear HI htk
    go_wp2
    go_ret
    exact ⟨by rw [HD.out]; rfl, hbr⟩
 ·have hne : ((xl.length : Int) != (yl.length : Int)) = true := by simp; omega
  have HD : Shut (N = false) := ⟨by rw [← sN.out]; exact decide_eq_false fun e => hl (by have := congrArg List.length e; simpa using this)⟩
  clear hl ha hb
  go_enter Tryz.func17, Tryz.ntmps17
  go_wp2
  go_ret
  exact ⟨by rw [HD.out]; rfl, Below.refl _ _⟩

theorem entersNSame' : ∀ args w, (callFunc 18 args).run Tryz.prog w = .ok (.enter 18 args) w := enters_of Tryz.func18 (by kernel_rfl) rfl

theorem equalNk (a b : Option Addr) (ca cb q : Nat) (xl yl : List MRec) (w : World) (h1 : xl.length = q) (h2 : yl.length = q) (hq : q ≤ 65536) (hx : Lies w a (recCells xl)) (hy : Lies w b (recCells yl)) (hxa : ∀ y ∈ xl, RecIn w y ∧ RecShort y) (hya : ∀ y ∈ yl, RecIn w y ∧ RecShort y) (he : xl.map MRec.r = yl.map MRec.r) :
  Calls Tryz.prog 17 #[.slice a q ca, .slice b q cb, .func (.func 18) #[] #[]] w fun e w' => e = .returned (.bool true) ∧ Below w.heap.size w w' := by
 have h := equalRec_any 18 entersNSame' (fun x y w hx hy sx sy => noteSame_any x.r y.r x.da x.dc x.ca x.cc y.da y.dc y.ca y.cc w hx.1 hx.2 hy.1 hy.2 sx.1 sx.2 sy.1 sy.2) a b ca cb xl yl w (by omega) (by omega) hx hy hxa hya
 rw [h1, h2, decide_eq_true he] at h
 exact h

theorem short_ofK {y : MRec} {C : List Rc} (h : y.r ∈ C) (hg : Goods C) : RecShort y := by
 obtain ⟨a, b⟩ := code_short (hg y.r h).2
 exact ⟨by unfold maxLen; omega, by unfold maxLen; omega⟩

theorem recCells_takeK {w : World} {a : Option Addr} {l : List MRec} (h : Lies w a (recCells l)) (q : Nat) : Lies w a (recCells (l.take q)) := by
 intro k u hu
 refine h k u ?_
 have e : recCells l = recCells (l.take q) ++ recCells (l.drop q) := by rw [← recCells_append, List.take_append_drop]
 rw [e, List.getElem?_append_left (List.getElem?_eq_some_iff.1 hu).1]
 exact hu

theorem repl_part {P : Pl} {l : List Rc} (h : (repl P l).1 = 0) (j : Nat) : (repl P (l.take j)).1 = 0 := by
 by_cases hz : (repl P (l.take j)).1 = 0
 ·exact hz
 ·have := repl_stop (l.drop j) hz
  rw [List.take_append_drop] at this
  rw [← this]; exact h

theorem repl_at {P : Pl} {l : List Rc} (h : (repl P l).1 = 0) {j : Nat} {x : Rc} (hx : l[j]? = some x) : (repl P (l.take j)).2.nextCode x = 0 ∧ repl P (l.take (j + 1)) = (0, (repl P (l.take j)).2.next x) := by
 have h1 := repl_part h j
 have h2 := repl_part h (j + 1)
 have e := repl_take hx h1
 by_cases hz : (repl P (l.take j)).2.nextCode x = 0
 ·rw [if_neg (fun e => e hz)] at e
  exact ⟨hz, e⟩
 ·rw [if_pos hz] at e
  rw [e] at h2
  exact absurd h2 hz

theorem repl_goods {P : Pl} {l : List Rc} (h : (repl P l).1 = 0) (hi : ∀ r ∈ l, r.ints) : Goods l := fun r hr => by
 obtain ⟨j, hj, rfl⟩ := List.getElem_of_mem hr
 exact ⟨hi _ hr, (next_zero (repl_at h (List.getElem?_eq_getElem hj)).1).2.1⟩

theorem repl_ok {me : Int} {l : List Rc} (hn : newCode me = 0) (h : (repl (plNew me) l).1 = 0) (j : Nat) : PlOk (repl (plNew me) (l.take j)).2 := by
 induction j with
 | zero => exact new_ok hn
 | succ j ih =>
  by_cases hj : j < l.length
  ·obtain ⟨a1, a2⟩ := repl_at h (List.getElem?_eq_getElem hj)
   rw [a2]
   obtain ⟨p1, p2, p3, p4⟩ := next_zero a1
   show PlOk ((repl (plNew me) (l.take j)).2.next _)
   rw [p4]
   exact (does_ok p1 p2 p3).1
  ·rw [List.take_of_length_le (by omega)]
   rw [List.take_of_length_le (by omega)] at ih
   exact ih

theorem PlNew.same {B : Nat} {w : World} {P : Pl} {L : List MKp} {p : Option Addr} {cp : Nat} (h : PlNew B w P.kp L p cp) (hOk : PlOk P) : PlSame w P L p P.kp.length := by
 have g := h.good hOk
 exact ⟨g.2.2.2.2.2, g.1, fun m hm => (g.2.1 m hm).same, g.2.2.1, by rw [← g.2.2.1]; exact g.2.2.2.1⟩

structure PaD (V u : World) (db : Nat) (t : List UInt8) (sa : Option Addr) (n sc : Nat) (wa : Option Addr) (wc : Nat) : Prop where
 below : Below V.heap.size V u
 box : u.heap[db]? = some (.cells #[.slice sa n sc, .slice wa 0 wc] 43 (0, 0))
 dk : DkIn u t [] sa n sc wa 0 wc
 small : t.length ≤ 60000

theorem DkIn.farB {w w' : World} {s v : List UInt8} {sa : Option Addr} {n sc : Nat} {wa : Option Addr} {m wc g B : Nat} (h : DkIn w s v sa n sc wa m wc) (hg : g < B) (h1 : ∀ b o, sa = some ⟨b, o, none⟩ → B ≤ b) (h2 : ∀ b o, wa = some ⟨b, o, none⟩ → B ≤ b) (hk : ∀ k, k ≠ g → w'.heap[k]? = w.heap[k]?) : DkIn w' s v sa n sc wa m wc :=
 h.far hk (fun b o e => Nat.lt_of_lt_of_le hg (h1 b o e)) (fun b o e => Nat.lt_of_lt_of_le hg (h2 b o e))

theorem put_two {s v : List UInt8} {r : Rc} (hd : dkCode s v = 0) (hr : r.code = 0) : putCode s v r = 0 ∨ putCode s v r = 2 := by
 unfold putCode
 rw [if_pos hd, if_pos hr]
 split
 ·exact Or.inl rfl
 ·exact Or.inr rfl

theorem allL_of {B K : Int} {n k nb : Nat} (g : Good B K n k nb) : ∀ {l : List LSym} {A P : List LRow}, (∀ y ∈ l, chkS B K y.1 y.2.length = 0) → addAll A (l.map (rowOf nb)) = some P → allL B K nb A l = (0, P) := by
 intro l
 induction l with
 | nil => intro A P _ h; simp only [List.map_nil, addAll, Option.some.injEq] at h; subst h; rfl
 | cons y l ih =>
  intro A P hl h
  simp only [List.map_cons, addAll] at h
  cases ha : addL A (rowOf nb y) with
  | none => rw [ha] at h; cases h
  | some Q =>
   rw [ha] at h
   have hs := stepL_ok (hl y List.mem_cons_self) ha
   rw [allL_go (by rw [hs]), hs]
   exact ih (fun z hz => hl z (List.mem_cons_of_mem _ hz)) h

noncomputable def symOf (nb k : Nat) (c : List UInt8) (i : Nat) : LSym := ((i : Int), symL nb k c i)

theorem symOf_row (nb k : Nat) (c : List UInt8) (i : Nat) : rowOf nb (symOf nb k c i) = symRow nb k c i := by simp [rowOf, symOf, symRow]

theorem symOf_chk {B K : Int} {n k nb i : Nat} (g : Good B K n k nb) (c : List UInt8) (hi : i ≤ 9999) : chkS B K (symOf nb k c i).1 (symOf nb k c i).2.length = 0 := by
 refine chkS_ok (chkP_good g) (by simp only [symOf]; omega) ?_
 simp only [symOf, symL_length]
 exact g.eK.symm

theorem full_units {nb k : Nat} {P : List LRow} (hP : Right nb k P) (hl : P.length = nb) {j : Nat} (hj : j < P.length) : P[j].1.count true = 1 ∧ firstI P[j].1 = j := by
 have hu := hP.sys.units hP.of (by simpa using hl) j (by simpa using hj)
 simp only [List.getElem_map] at hu
 have hlead : Lead (LRow.v P[j]) j := ⟨by rw [hu j]; simp, fun i hi => by rw [hu i]; simp; omega⟩
 have hf := firstI_lead.2 hlead
 refine ⟨?_, hf⟩
 rw [count_one hf]
 intro hm
 obtain ⟨i, hi, he⟩ := List.getElem_of_mem hm
 rw [List.getElem_drop] at he
 have hlt : j + 1 + i < P[j].1.length := by simp at hi; omega
 have h := hu (j + 1 + i)
 rw [LRow.v_has hlt, he, decide_eq_false (by omega)] at h
 cases h

theorem full_known {nb k : Nat} {P : List LRow} (hP : Right nb k P) (hl : P.length = nb) : knownL nb P = P.map Prod.snd := by
 apply List.ext_getElem?
 intro j
 by_cases hj : j < nb
 ·have hj' : j < P.length := by omega
  obtain ⟨h1, h2⟩ := full_units hP hl hj'
  rw [known_has hP (List.getElem_mem hj') hj h1 h2]
  simp [hj']
 ·rw [List.getElem?_eq_none (by rw [knownL_length]; omega), List.getElem?_eq_none (by simp; omega)]

theorem piece_of {k j : Nat} {c d : List UInt8} (hd : d.length = k) (h : ∀ i, d.getD i 0 = blkAt k c j i) : d = piece k j c := by
 apply List.ext_getElem (by rw [hd, piece_length])
 intro i h1 h2
 have := h i
 rw [List.getD_eq_getElem?_getD, List.getElem?_eq_getElem h1] at this
 unfold blkAt at this
 rw [List.getD_eq_getElem?_getD, List.getElem?_eq_getElem h2] at this
 simpa using this

theorem full_true {nb k : Nat} {c : List UInt8} {P : List LRow} (hP : Right nb k P) (hl : P.length = nb) (hT : ∀ s ∈ P, Tr nb (blkAt k c) (LRow.v s)) : knownL nb P = cutL nb k c := by
 rw [full_known hP hl]
 apply List.ext_getElem
 ·simp [cutL_length, hl]
 ·intro j h1 h2
  have hj : j < P.length := by simpa using h1
  obtain ⟨u1, u2⟩ := full_units hP hl hj
  have hu := unit_has u1 u2
  have h := (hT _ (List.getElem_mem hj)).one (by omega) hu
  simp only [List.getElem_map, cutL, List.getElem_range]
  exact piece_of (hP.fits _ (List.getElem_mem hj)).2 h

theorem sym_rows {B K : Int} {n k nb : Nat} (g : Good B K n k nb) (c : List UInt8) (ids : List Nat) (hi : ∀ i ∈ ids, i ≤ 9999) : ∃ P, addAll [] (ids.map (symRow nb k c)) = some P ∧ Right nb k P ∧ (∀ v, Span (P.map LRow.v) v ↔ Span ((ids.map (symRow nb k c)).map LRow.v) v) ∧ (∀ s ∈ P, Tr nb (blkAt k c) (LRow.v s)) ∧
  allL B K nb [] (ids.map (symOf nb k c)) = (0, P) := by
 have hR0 : Right nb k [] := ⟨g.b1, g.b2, g.k1, g.k2, (fun r hr => by cases hr), Sys.nil⟩
 have hfit : ∀ r ∈ ids.map (symRow nb k c), Fits nb k r ∧ Tr nb (blkAt k c) (LRow.v r) := fun r hr => by
  obtain ⟨i, _, rfl⟩ := List.mem_map.1 hr
  exact ⟨symRow_fits nb k c i, symRow_true g.b1 g.b2⟩
 obtain ⟨P, hP, hT⟩ := addAll_true (B := blkAt k c) hR0 (fun s hs => by cases hs) hfit
 obtain ⟨p1, p2⟩ := addAll_right hR0 (fun r hr => (hfit r hr).1) hP
 refine ⟨P, hP, p1, by simpa using p2, hT, ?_⟩
 refine allL_of g (fun y hy => ?_) ?_
 ·obtain ⟨i, hi', rfl⟩ := List.mem_map.1 hy
  exact symOf_chk g c (hi i hi')
 ·rw [List.map_map]
  have e : (rowOf nb ∘ symOf nb k c) = symRow nb k c := funext fun i => symOf_row nb k c i
  rw [e]
  exact hP

theorem nB_good {B K : Int} {n k nb : Nat} (g : Good B K n k nb) : (nB B K).toNat = nb := by rw [g.eN]; simp

theorem dec_true {B K : Int} {n k nb : Nat} (g : Good B K n k nb) {c : List UInt8} (hc : c.length = n) {ids : List Nat} (hi : ∀ i ∈ ids, i ≤ 9999) (hl : ids.length ≤ 60) {P : List LRow} (hP : addAll [] (ids.map (symRow nb k c)) = some P) :
  (P.length < nb ∧ decCode B K (ids.map (symOf nb k c)) = 8 ∧ decRes B K (ids.map (symOf nb k c)) = []) ∨ (P.length = nb ∧ decCode B K (ids.map (symOf nb k c)) = 0 ∧ decRes B K (ids.map (symOf nb k c)) = c) := by
 obtain ⟨P', hP', hR, hS, hT, hA⟩ := sym_rows g c ids hi
 rw [hP] at hP'
 cases hP'
 have hfew := hR.few
 have e0 : ¬ (chkP B K ≠ 0) := by rw [chkP_good g]; simp
 have e1 : ¬ 60 < (ids.map (symOf nb k c)).length := by simp; omega
 have e2 : ¬ ((0 : Int) ≠ 0) := by simp
 unfold decCode decRes
 rw [if_neg e0, if_neg e1, if_neg e0, if_neg e1, nB_good g, hA]
 simp only [if_neg e2]
 by_cases h : P.length < nb
 ·exact .inl ⟨h, if_pos h, if_pos h⟩
 ·have hn : P.length = nb := by omega
  have hk := full_true hR hn hT
  obtain ⟨c1, c2⟩ := cutCode_good g hc
  obtain ⟨j1, j2⟩ := join_cut c1
  rw [c2] at j1 j2
  refine .inr ⟨hn, ?_, ?_⟩
  ·rw [if_neg h, hk]; exact j1
  ·rw [if_neg h, hk]; exact j2

theorem first_enough {B K : Int} {n k nb : Nat} (g : Good B K n k nb) (c : List UInt8) {ids : List Nat} {P : List LRow} (hR : Right nb k P) (hS : ∀ v, Span (P.map LRow.v) v ↔ Span ((ids.map (symRow nb k c)).map LRow.v) v) (h : ∀ j, j < nb → j ∈ ids) : P.length = nb := by
 have := hR.sys.full hR.of fun j hj => by
  refine ⟨LRow.v (symRow nb k c j), (hS _).2 (.mem (List.mem_map_of_mem (List.mem_map_of_mem (h j hj)))), ?_⟩
  have e : ∀ i, (LRow.v (symRow nb k c j)).has i = decide (i = j) := fun i => by
   unfold symRow
   rw [maskL_has _ g.b1 g.b2, chosen_low hj]
   simp [mask]
  exact ⟨by rw [e]; simp, fun i hi => by rw [e]; simp; omega⟩
 simpa using this

theorem held_dec : decCode 2 1 [(0, [7]), (1, [8])] = 0 ∧ decRes 2 1 [(0, [7]), (1, [8])] = [7, 8] := by
 have g : Good 2 1 2 1 2 := ⟨rfl, rfl, by decide, by decide, by decide, by decide, by decide, by decide, by decide, by decide, by decide⟩
 have hs : ([0, 1] : List Nat).map (symOf 2 1 [7, 8]) = [(0, [7]), (1, [8])] := by
  have h0 : symL 2 1 [7, 8] 0 = [7] := by unfold symL; rw [chosen_low (by decide)]; rfl
  have h1 : symL 2 1 [7, 8] 1 = [8] := by unfold symL; rw [chosen_low (by decide)]; rfl
  simp [symOf, h0, h1]
 have hi : ∀ i ∈ ([0, 1] : List Nat), i ≤ 9999 := by intro i hi; simp at hi; omega
 obtain ⟨P, hP, hR, hS, hT, hA⟩ := sym_rows g [7, 8] [0, 1] hi
 have hl := first_enough g [7, 8] hR hS (by intro j hj; simp; omega)
 rcases dec_true g (c := [7, 8]) rfl hi (by simp) hP with ⟨h, _⟩ | ⟨_, h1, h2⟩
 ·omega
 ·rw [hs] at h1 h2
  exact ⟨h1, h2⟩

def hdH : Hd := ⟨1, 0, 2, 50, 2, 1⟩
def rcH1 : Rc := ⟨2, 0, 0, 0, hdH, 0, [7], []⟩
def rcH2 : Rc := ⟨2, 0, 0, 0, hdH, 1, [8], []⟩
def rcH3 : Rc := ⟨6, 1, 4, 1, hdH, 0, [], []⟩
def rcH4 (b : UInt8) : Rc := ⟨3, 0, 0, 0, hdH, 0, [], [7, b]⟩
def rcH5 : Rc := ⟨8, 0, 50, 0, ⟨0, 0, 0, 0, 0, 0⟩, 0, [], []⟩

def kpH (s : Int) : Kp := { kp0 hdH with ss := [(0, [7]), (1, [8])], sh := s, tk := if s = 4 then [(1, 1)] else [] }
def plH1 : Pl := ⟨2, [{ kp0 hdH with ss := [(0, [7])] }], 0, 0⟩
def plH2 : Pl := ⟨2, [kpH 0], 0, 0⟩
def plH3 : Pl := ⟨2, [kpH 4], 0, 0⟩

theorem next_of {P Q : Pl} {r : Rc} (h1 : P.code = 0) (h2 : r.code = 0) (h3 : P.does r = (0, Q)) : P.nextCode r = 0 ∧ P.next r = Q := by
 have e : P.nextCode r = 0 := by unfold Pl.nextCode; rw [if_neg (fun e => e h1), if_neg (fun e => e h2), h3]
 exact ⟨e, by unfold Pl.next; rw [if_pos e, h3]⟩

theorem held1 : (plNew 2).nextCode rcH1 = 0 ∧ (plNew 2).next rcH1 = plH1 := by
 refine next_of (by rfl) (by rfl) ?_
 unfold Pl.does
 rw [if_neg (by decide), if_neg (by decide), if_neg (by decide)]
 unfold Kp.does
 rfl

theorem bundle_one {P : Pl} {k : Kp} {r : Rc} (hP : P.kp = [k]) (hk : k.h = hdH) (hr : r.h = hdH) (ht : ¬ (50 : Int) ≤ P.tm) : P.bundle r = (0, P.kp, 0) := by
 have hf : findL P.kp r.h.F r.h.Q = some 0 := by rw [hP, hr]; unfold findL; simp [hk]
 unfold Pl.bundle
 rw [hf]
 simp only
 rw [if_neg (by rw [hr]; exact ht), if_neg (by rw [hP, hr]; simp [hk])]

theorem does_one {P : Pl} {k : Kp} {r : Rc} (hP : P.kp = [k]) (hk : k.h = hdH) (hr : r.h = hdH) (ht : ¬ (50 : Int) ≤ P.tm) (k1 : r.k ≠ 1) (k8 : r.k ≠ 8) : P.does r = ((k.does P.me r).1, ⟨P.me, [(k.does P.me r).2], P.tm, P.sq⟩) := by
 have hb := bundle_one hP hk hr ht
 rw [does_of (k := k) k1 k8 (by rw [hb]) (by rw [hb, hP]; rfl), hb, hP]
 rfl

theorem held2 : plH1.nextCode rcH2 = 0 ∧ plH1.next rcH2 = plH2 := by
 refine next_of (by rfl) (by rfl) ?_
 rw [does_one (k := { kp0 hdH with ss := [(0, [7])] }) rfl rfl rfl (by decide) (by decide) (by decide)]
 unfold Kp.does
 rfl

theorem held3 : plH2.nextCode rcH3 = 0 ∧ plH2.next rcH3 = plH3 := by
 refine next_of (by rfl) (by rfl) ?_
 rw [does_one (k := kpH 0) rfl rfl rfl (by decide) (by decide) (by decide)]
 unfold Kp.does
 rw [if_neg (by decide), if_neg (by decide), if_neg (by decide), if_neg (by decide), if_neg (by decide), if_pos (by decide)]
 unfold Kp.take
 rw [if_neg (by decide), if_neg (by decide), if_neg (by decide)]
 rfl

def plH4 : Pl := ⟨2, [({ kpH 4 with dl := true } : Kp).over], 0, 0⟩

theorem held4 : plH3.nextCode (rcH4 8) = 0 ∧ plH3.next (rcH4 8) = plH4 := by
 refine next_of (by rfl) (by rfl) ?_
 rw [does_one (k := kpH 4) rfl rfl rfl (by decide) (by decide) (by decide)]
 unfold Kp.does
 rw [if_neg (by decide), if_pos (by decide)]
 unfold Kp.deliver
 have h := held_dec
 rw [if_neg (by decide), if_neg (by decide), if_neg (fun e => e h.1), if_neg (fun e => e h.2)]
 rfl

theorem held5 : plH3.nextCode (rcH4 9) = 9 := by
 have e : plH3.does (rcH4 9) = (9, plH3) := by
  rw [does_one (k := kpH 4) rfl rfl rfl (by decide) (by decide) (by decide)]
  unfold Kp.does
  rw [if_neg (by decide), if_pos (by decide)]
  unfold Kp.deliver
  have h := held_dec
  rw [if_neg (by decide), if_neg (by decide), if_neg (fun e => e h.1), if_pos (fun e => by have := h.2.symm.trans e; revert this; decide)]
  rfl
 unfold Pl.nextCode
 rw [if_neg (fun e => e rfl), if_neg (fun e => e rfl), e]

def plH6 : Pl := ⟨2, [], 50, 0⟩

theorem held6 : plH4.nextCode rcH5 = 0 ∧ plH4.next rcH5 = plH6 := by
 refine next_of (by rfl) (by unfold Rc.code; rw [← ownCode_rec]; simp [ownCode, needless, rcH5, inK]) ?_
 unfold Pl.does
 rw [if_neg (by decide), if_pos (by decide)]
 rfl

theorem held_repl : repl (plNew 2) [rcH1, rcH2, rcH3] = (0, plH3) := by
 rw [repl, if_neg (fun e => e held1.1), held1.2, repl, if_neg (fun e => e held2.1), held2.2, repl, if_neg (fun e => e held3.1), held3.2, repl]

theorem lawHead_any (w : World) : Calls Tryz.prog 31 #[] w fun e w' => e = .returned (.agg #[.int .i64 1, .int .i64 0, .int .i64 2, .int .i64 50, .int .i64 2, .int .i64 1]) ∧ Below w.heap.size w w' := by
 go_enter Tryz.func31, Tryz.ntmps31
 go_wp2
 refine bodyPost_ret (v := .agg #[.int .i64 1, .int .i64 0, .int .i64 2, .int .i64 50, .int .i64 2, .int .i64 1]) (by simp [results, Tryz.results31, go_sem]) rfl ?_
 exact ⟨rfl, (Below.refl _ _).alloc (Nat.le_refl _) _⟩

end Go.Proofs.YtakkajjoeimkdaaGreatDoor
