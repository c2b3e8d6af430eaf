import Derived.Test.YtekdigbdfeamkaaGreatDoorPart18
import Derived.Test.YtekdigbdfeamkaaGreatDoorPart14
import Derived.Test.YtekdigbdfeamkaaGreatDoorPart9
import Derived.Test.YtekdigbdfeamkaaGreatDoorPart10
import Derived.Deep.RegionLaw
import Derived.Test.YtekdigbdfeamkaaGreatDoorPart11
/-
  Chapter 8, the reference: SameDisk, CheckDisk, Synced.
-/
namespace Go.Proofs.YtekdigbdfeamkaaGreatDoor
open Go.RowKit
set_option linter.unusedVariables false
set_option linter.unusedSimpArgs false

section
variable {w : World} {s v : List UInt8} {sa : Option Addr} {n sc : Nat} {wa : Option Addr} {m wc : Nat}

theorem below_drewN (w : World) : ∀ k, Below w.heap.size w (w.drewN k)
  | 0 => Below.refl _ _
  | k + 1 => (below_drewN w k).drew

theorem eqB {w : World} {a b : Option Addr} {ca cb p q : Nat} {xs ys : List UInt8} (h1 : xs.length = p) (h2 : ys.length = q) (hx : p ≤ maxLen) (hy : q ≤ maxLen) (ha : Lies w a (bs xs)) (hb : Lies w b (bs ys)) :
    Calls Tryz.prog 25 #[.slice a p ca, .slice b q cb] w fun e w' => e = .returned (.bool (decide (xs = ys))) ∧ Below w.heap.size w w' := by
  subst h1 h2
  refine (equalBytes a b ca cb xs ys hx hy ha hb).mono ?_
  rintro e w' ⟨he, k, rfl⟩
  exact ⟨he, below_drewN w k⟩

set_option maxRecDepth 4000 in
theorem sameDR {s' v' : List UInt8} {sa' : Option Addr} {n' sc' : Nat} {wa' : Option Addr} {m' wc' : Nat} (h : DkIn w s v sa n sc wa m wc) (h' : DkIn w s' v' sa' n' sc' wa' m' wc') (l1 : n ≤ maxLen) (l2 : m ≤ maxLen) (l3 : n' ≤ maxLen) (l4 : m' ≤ maxLen) :
    Calls Tryz.prog 12 #[.agg #[.slice sa n sc, .slice wa m wc], .agg #[.slice sa' n' sc', .slice wa' m' wc']] w fun e w' => e = .returned (.bool (decide (s = s' ∧ v = v'))) ∧ Below w.heap.size w w' := by
  obtain ⟨W, hW⟩ : ∃ W, (w.alloc (.cells #[.slice sa n sc, .slice wa m wc] 24)).alloc (.cells #[.slice sa' n' sc', .slice wa' m' wc'] 24) = W := ⟨_, rfl⟩
  have hBW : Below w.heap.size w W := by rw [← hW]; exact ((Below.refl _ _).alloc (Nat.le_refl _) _).alloc (by simp) _
  have hb1 : W.heap[w.heap.size]? = some (.cells #[.slice sa n sc, .slice wa m wc] 24 (0, 0)) := by rw [← hW, heap_alloc_eq, if_neg (by simp), heap_alloc_eq, if_pos rfl]
  have hb2 : W.heap[w.heap.size + 1]? = some (.cells #[.slice sa' n' sc', .slice wa' m' wc'] 24 (0, 0)) := by rw [← hW, heap_alloc_eq, if_pos (by simp)]
  obtain ⟨c0, c1, _, _⟩ := cellsD hb1
  obtain ⟨d0, d1, _, _⟩ := cellsD hb2
  have hk := h.below hBW
  have hk' := h'.below hBW
  have hE1 := eqB (ca := sc) (cb := sc') hk.hn hk'.hn l1 l3 hk.ls hk'.ls
  have hE2 : ∀ W', Below W.heap.size W W' → Calls Tryz.prog 25 #[.slice wa m wc, .slice wa' m' wc'] W' fun e w' => e = .returned (.bool (decide (v = v'))) ∧ Below W'.heap.size W' w' := fun W' hb => eqB hk.hm hk'.hm l2 l4 (hk.lv.below hb (Nat.le_refl _)) (hk'.lv.below hb (Nat.le_refl _))
  clear h h' hk hk'
  go_enter Tryz.func12, Tryz.ntmps12
  go_wp2_with fail
  refine hE1.mono ?_
  rintro e W1 ⟨rfl, hB1⟩
  have hF1 := hBW.trans (hB1.mono hBW.size)
  have hk1 := blkB hb1 hB1
  have hk2 := blkB hb2 hB1
  have hE := hE2 W1 hB1
  clear hE1 hE2 c0 c1 d0 d1 hW
  obtain ⟨c0, c1, _, _⟩ := cellsD hk1
  obtain ⟨d0, d1, _, _⟩ := cellsD hk2
  by_cases hs : s = s'
  · rw [decide_eq_true hs]
    have hr : Shut (decide (s = s' ∧ v = v') = decide (v = v')) := ⟨by rw [decide_eq_decide]; exact ⟨fun h => h.2, fun h => ⟨hs, h⟩⟩⟩
    clear hs
    generalize decide (v = v') = D at hE hr
    go_wp2_with fail
    refine hE.mono ?_
    rintro e W2 ⟨rfl, hB2⟩
    have hF2 := hF1.trans (hB2.mono hF1.size)
    clear hE
    go_wp2
    go_ret
    exact ⟨(by rw [hr.out]; rfl), hF2⟩
  · rw [decide_eq_false hs]
    have hr : Shut (decide (s = s' ∧ v = v') = false) := ⟨decide_eq_false fun h => hs h.1⟩
    clear hs hE
    go_wp2
    go_ret
    exact ⟨(by rw [hr.out]; rfl), hF1⟩

set_option maxHeartbeats 1000000 in
set_option maxRecDepth 4000 in
theorem checkDR (h : DkIn w s v sa n sc wa m wc) (ln : n ≤ 9223372036854775807) (lm : m ≤ 9223372036854775807) (hL : LaidN w) :
    Calls Tryz.prog 8 #[.agg #[.slice sa n sc, .slice wa m wc]] w fun e w' => e = .returned (.int .i64 (dkCode s v)) ∧ Below w.heap.size w w' := by
  obtain ⟨W, hW⟩ : ∃ W, w.alloc (.cells #[.slice sa n sc, .slice wa m wc] 24) = W := ⟨_, rfl⟩
  have hBW : Below w.heap.size w W := by rw [← hW]; exact (Below.refl _ _).alloc (Nat.le_refl _) _
  have hb1 : W.heap[w.heap.size]? = some (.cells #[.slice sa n sc, .slice wa m wc] 24 (0, 0)) := by rw [← hW, heap_alloc_eq, if_pos rfl]
  obtain ⟨c0, c1, _, _⟩ := cellsD hb1
  have hk := h.below hBW
  have hLW := hL.below hBW
  have e1 := h.hn
  have e2 := h.hm
  by_cases hs : 60000 < n
  · have HZ : Shut (dkCode s v = 2) := ⟨by rw [dkCode, if_pos (by omega)]⟩
    have hs' : (60000 : Int) < (n : Int) := by omega
    clear hk h e1 e2
    go_enter Tryz.func8, Tryz.ntmps8
    go_wp2
    go_ret
    exact ⟨(by rw [HZ.out]; rfl), hBW⟩
  · have hs' : ¬ (60000 : Int) < (n : Int) := by omega
    have hw1 : IntKind.i64.wrap (60000 - (n : Int)) = 60000 - (n : Int) := by rw [IntKind.wrap_i64]; omega
    by_cases hv : 60000 < n + m
    · have HZ : Shut (dkCode s v = 2) := ⟨by rw [dkCode, if_pos (by omega)]⟩
      have hv' : 60000 - (n : Int) < (m : Int) := by omega
      clear hk h e1 e2 hv
      go_enter Tryz.func8, Tryz.ntmps8
      go_wp2
      go_ret
      exact ⟨(by rw [HZ.out]; rfl), hBW⟩
    · have hv' : ¬ 60000 - (n : Int) < (m : Int) := by omega
      have HZ : Shut (dkCode s v = (linesL 200 s).2.2) := ⟨by rw [dkCode, if_neg (by omega)]⟩
      have hcv := convBytes (c := sc) hk.ls e1
      have hD := linesOf_any ⟨s.toArray⟩ 200 (Nat.le_refl _) W (by show s.toArray.size ≤ 60000; simp; omega) hLW
      rw [show ((200 : Nat) : Int) = 200 from rfl] at hD
      simp only at hD
      clear hk h e1 e2 hv hs
      go_enter Tryz.func8, Tryz.ntmps8
      go_wp2_with fail
      refine hD.mono ?_
      rintro e W2 ⟨hb2, L, p, cp, rfl, _⟩
      have hB2 := hBW.trans (hb2.mono hBW.size)
      clear hD hb2 hcv
      generalize (linesL 200 s).2.2 = z at HZ
      generalize (linesL 200 s).2.1 = y
      go_wp2
      go_ret
      exact ⟨(by rw [HZ.out]; rfl), hB2⟩

/-- a disk that is answered, and a code -/
def DkAns (z : Int) (s v : List UInt8) (e : Ending) (w' : World) : Prop :=
  ∃ (sa : Option Addr) (n sc : Nat) (wa : Option Addr) (m wc : Nat), e = .returned (.tuple #[.agg #[.slice sa n sc, .slice wa m wc], .int .i64 z]) ∧ DkIn w' s v sa n sc wa m wc

theorem DkIn.zero (w : World) : DkIn w [] [] none 0 0 none 0 0 := ⟨rfl, rfl, Nat.le_refl _, Nat.le_refl _, Lies.nil _ _, Lies.nil _ _⟩

/-- two lists of bytes, joined -/
theorem catB2 {a b : Option Addr} {x y ca cb : Nat} {xs ys : List UInt8} (h1 : xs.length = x) (h2 : ys.length = y) (hx : x + y ≤ 120000) (ha : Lies w a (bs xs)) (hb : Lies w b (bs ys)) (p : Addr) (hp : Lies w (some p) [.slice a x ca, .slice b y cb]) :
    Calls Tryz.prog 27 #[.slice (some p) 2 2] w fun e w' => ∃ q c, e = .returned (.slice q (x + y) c) ∧ Lies w' q (bs (xs ++ ys)) ∧ x + y ≤ c ∧ Below w.heap.size w w' ∧ ∀ b o, q = some ⟨b, o, none⟩ → w.heap.size ≤ b := by
  subst h1 h2
  have hin : AllIn w [⟨a, ca, xs⟩, ⟨b, cb, ys⟩] := by
    intro k hk
    rcases List.mem_cons.1 hk with rfl | hk
    · exact ⟨ha, by unfold maxLen; simp only; omega⟩
    · obtain rfl : k = ⟨b, cb, ys⟩ := by simpa using hk
      exact ⟨hb, by unfold maxLen; simp only; omega⟩
  refine (concatB_any (some p) 2 [⟨a, ca, xs⟩, ⟨b, cb, ys⟩] w (by unfold maxLen; simp) (by simp; omega) hp hin).mono ?_
  rintro e w' ⟨v, rfl, ho, hB⟩
  have ho' : w'.ownsRow w.heap.size 5 1 v (xs.length + ys.length) (bs (xs ++ ys)) := by simpa using ho
  obtain ⟨q, c, rfl, hc⟩ := own_slice ho'
  obtain ⟨q', c', e, hl, _⟩ := own_lies ho'
  injection e with e1 e2 e3
  subst e1
  exact ⟨q, c, rfl, hl, hc, hB, fun b o e => (ho'.lt b (by rw [e]; rfl)).1⟩

end

end Go.Proofs.YtekdigbdfeamkaaGreatDoor

/-
  Chapter 7, the reference: RecText's closure, which puts a list of bytes behind a text.
-/
namespace Go.Proofs.YtekdigbdfeamkaaGreatDoor
open Go.RowKit
set_option linter.unusedVariables false
set_option linter.unusedSimpArgs false

/-- a text in a box of its own -/
def TextAt (w : World) (g : Nat) (s : List UInt8) : Prop := w.heap[g]? = some (.cells #[.string ⟨s.toArray⟩] 9 (0, 0))

theorem TextAt.cell {w : World} {g : Nat} {s : List UInt8} (h : TextAt w g s) : w.cell? ⟨g, 0, none⟩ = some (.string ⟨s.toArray⟩) := cellB h 0 _ rfl
theorem TextAt.free {w : World} {g : Nat} {s : List UInt8} (h : TextAt w g s) : w.frozen? ⟨g, 0, none⟩ = false := by
  unfold TextAt at h
  simp [World.frozen?, h]
theorem TextAt.set {w : World} {g : Nat} {s : List UInt8} (h : TextAt w g s) (s' : List UInt8) : TextAt (w.setCell ⟨g, 0, none⟩ (.string ⟨s'.toArray⟩)) g s' := by
  unfold TextAt at h ⊢
  simp [World.setCell, Array.getElem?_modify, h]

theorem encDigF : ∀ m : Fin 16, (Utf8.encode ((dig m.val).toNat : Int)).data.toList = [dig m.val] := by decide +kernel

set_option maxRecDepth 8000 in
theorem encDig (m : Nat) (hm : m < 16) : Utf8.encode ((dig m).toNat : Int) = ⟨#[dig m]⟩ := by
  apply ByteArray.ext
  apply Array.ext'
  have h := encDigF ⟨m, hm⟩
  simpa using h

theorem catS (a b : List UInt8) : (⟨a.toArray⟩ ++ ⟨b.toArray⟩ : ByteArray) = ⟨(a ++ b).toArray⟩ := by
  apply ByteArray.ext
  simp

theorem wrap8 (n : Int) (h0 : 0 ≤ n) (h1 : n < 256) : IntKind.u8.wrap n = n := by
  have : ∀ m : Fin 256, IntKind.u8.wrap ((m.val : Nat) : Int) = ((m.val : Nat) : Int) := by decide +kernel
  have h := this ⟨n.toNat, by omega⟩
  simpa [Int.toNat_of_nonneg h0] using h

/-- how far the digits are written -/
def PutInv (w wr : World) (g : Nat) (s : List UInt8) (l : List UInt8) (q : Nat) : Prop :=
  TextAt wr g (s ++ hexW (l.take q)) ∧ Below g w wr ∧ ∀ k, k ≠ g → k < w.heap.size → wr.heap[k]? = w.heap[k]?

set_option maxHeartbeats 1000000 in
set_option maxRecDepth 8000 in
theorem put_any (a : Option Addr) (cap : Nat) (l : List UInt8) (g : Nat) (s : List UInt8) (w : World) (hn : l.length ≤ 1048576) (hs : s.length ≤ 1048576) (hl : Lies w a (bs l)) (hne : 0 < l.length → ∀ b o, a = some ⟨b, o, none⟩ → b ≠ g) (ht : TextAt w g s) :
    Calls Tryz.prog 40 #[.slice a l.length cap, .pointer (some ⟨g, 0, none⟩)] w fun e w' => e = .returned (.tuple #[]) ∧ TextAt w' g (s ++ hexW l) ∧ Below g w w' ∧ ∀ k, k ≠ g → k < w.heap.size → w'.heap[k]? = w.heap[k]? := by
  have c0 := ht.cell
  have f0 := ht.free
  go_enter Tryz.func40, Tryz.ntmps40
  go_wp2_with fail
  rw [show ({ data := s.toArray } ++ { data := #[45] } : ByteArray) = ⟨(s ++ [45]).toArray⟩ from catS s [45]]
  have ht1 := ht.set (s ++ [45])
  have H0 : Shut (PutInv w (w.setCell ⟨g, 0, none⟩ (.string ⟨(s ++ [45]).toArray⟩)) g s l 0) := ⟨ht1, (Below.refl g w).setCell (p := ⟨g, 0, none⟩) (Nat.le_refl _) _, fun k hk _ => Below.heap_setCell _ _ _ _ (fun e => hk (by simpa using e))⟩
  have hgw : g < w.heap.size := (Array.getElem?_eq_some_iff.1 ht).1
  generalize w.setCell ⟨g, 0, none⟩ (.string ⟨(s ++ [45]).toArray⟩) = w1 at H0 ⊢
  clear c0 f0 ht1 ht
  go_loopw [9] (fun m wr => ∃ q : Nat, q ≤ l.length ∧ m = .int .i64 q ∧ Shut (PutInv w wr g s l q)) (fun m _ => l.length - (intOf m).toNat)
  case atStart => exact ⟨0, Nat.zero_le _, rfl, H0⟩
  case round =>
    clear H0
    obtain ⟨q, hq, rfl, hI⟩ := hrel
    obtain ⟨htx, hbg, hk⟩ := hI.out
    by_cases hlt : q < l.length
    · obtain ⟨ab, ao, rfl⟩ := hl.some (k := q) (by rw [bs_length]; exact hlt)
      have hab : ab ≠ g := hne (by omega) ab ao rfl
      have c1 : wr.cell? ⟨ab, ao + q, none⟩ = some (.int .u8 (l[q].toNat : Int)) := by
        have h1 := hl.at (bs_get l q hlt)
        have h2 := World.block_lt_of_cell? w _ h1
        rw [← h1]
        simp only [World.cell?, hk ab hab h2]
      have hlen : (hexW (l.take q)).length ≤ 2 * l.length + 1 := by rw [hexW_len, List.length_take]; omega
      have hx := l[q].toNat_lt
      generalize hxq : l[q].toNat = x at c1 hx
      have hx1 : x / 16 < 16 := by omega
      have hx2 : x % 16 < 16 := by omega
      have e1 := encDig (x / 16) hx1
      have e2 := encDig (x % 16) hx2
      have ct := htx.cell
      have ft := htx.free
      have ctd : wr.drew.cell? ⟨g, 0, none⟩ = some (.string ⟨(s ++ hexW (l.take q)).toArray⟩) := ct
      have ftd : wr.drew.frozen? ⟨g, 0, none⟩ = false := ft
      generalize hTX : s ++ hexW (l.take q) = TX at ct ctd
      have HS : Shut (({ data := TX.toArray } ++ ({ data := #[dig (x / 16)] } ++ { data := #[dig (x % 16)] }) : ByteArray) = ⟨(s ++ hexW (l.take (q + 1))).toArray⟩) := ⟨by
        have h1 : ({ data := #[dig (x / 16)] } ++ { data := #[dig (x % 16)] } : ByteArray) = ⟨[dig (x / 16), dig (x % 16)].toArray⟩ := catS [dig (x / 16)] [dig (x % 16)]
        rw [h1, catS, ← hTX, ← hexW_next l q hlt, hxq]
        simp only [List.append_assoc, List.cons_append, List.nil_append]⟩
      have R : Shut (PutInv w (wr.drew.setCell ⟨g, 0, none⟩ (.string ⟨(s ++ hexW (l.take (q + 1))).toArray⟩)) g s l (q + 1)) := ⟨TextAt.set (w := wr.drew) htx _, (hbg.trans (bdn wr 1 _)).setCell (p := ⟨g, 0, none⟩) (Nat.le_refl _) _, fun k hk' hkl => by rw [Below.heap_setCell _ _ _ _ (fun e => hk' (by simpa using e))]; exact hk k hk' hkl⟩
      go_upto_region 4 with fail
      have i1 : (0 : Int) ≤ (x : Int) / 16 ∧ (x : Int) / 16 < 16 := by omega
      have i2 : (0 : Int) ≤ (x : Int) % 16 ∧ (x : Int) % 16 < 16 := by omega
      have hw1 : IntKind.u8.wrap ((x : Int) / 16) = (x : Int) / 16 := wrap8 _ (by omega) (by omega)
      have hw2 : (x : Int).tmod 16 = (x : Int) % 16 := by rw [Int.tmod_eq_emod_of_nonneg (by omega)]
      have n1 : ((x : Int) / 16).toNat = x / 16 := by omega
      have n2 : ((x : Int) % 16).toNat = x % 16 := by omega
      have h1e : ∀ pf, Utf8.encode ((({ data := #[48, 49, 50, 51, 52, 53, 54, 55, 56, 57, 97, 98, 99, 100, 101, 102] } : ByteArray)[((x : Int) / 16).toNat]'pf).toNat : Int) = ⟨#[dig (x / 16)]⟩ := fun pf => by rw [digGet, n1]; exact e1
      have h2e : ∀ pf, Utf8.encode ((({ data := #[48, 49, 50, 51, 52, 53, 54, 55, 56, 57, 97, 98, 99, 100, 101, 102] } : ByteArray)[((x : Int) % 16).toNat]'pf).toNat : Int) = ⟨#[dig (x % 16)]⟩ := fun pf => by rw [digGet, n2]; exact e2
      have hTL : TX.length ≤ 4000000 := by rw [← hTX, List.length_append]; omega
      have hT3 : ¬ 9223372036854775807 < TX.length + 2 := by omega
      clear n1 n2 e1 e2
      go_region_law (fail)
      all_goals
        rw [show ({ data := TX.toArray } ++ ({ data := #[dig (x / 16)] } ++ { data := #[dig (x % 16)] }) : ByteArray) = ⟨(s ++ hexW (l.take (q + 1))).toArray⟩ from HS.out]
        go_wp2
        exact ⟨⟨q + 1, by omega, by go_num, R⟩, by simp [intOf]; omega⟩
    · obtain rfl : q = l.length := by omega
      rw [List.take_length] at htx
      clear hI
      go_wp2
      refine bodyPost_end (v := .tuple #[]) (by simp [results, Tryz.results40, go_sem]) rfl ?_
      exact ⟨rfl, htx, hbg, hk⟩

theorem entersPut : ∀ args w, (callFunc 40 args).run Tryz.prog w = .ok (.enter 40 args) w := enters_of Tryz.func40 (by kernel_rfl) rfl

theorem lies_low {w : World} {a : Option Addr} {l : List UInt8} (h : Lies w a (bs l)) {g : Nat} (hg : w.heap.size ≤ g) : 0 < l.length → ∀ b o, a = some ⟨b, o, none⟩ → b ≠ g := by
  intro h0 b o e
  have h1 := h.lt e 0 (by rw [bs_length]; exact h0)
  have h2 := World.block_lt_of_cell? w _ h1
  simp only at h2
  omega

end Go.Proofs.YtekdigbdfeamkaaGreatDoor

/-
  Chapter 7, the reference: RecText answers what note.Print answers.
-/
namespace Go.Proofs.YtekdigbdfeamkaaGreatDoor
open Go.RowKit
set_option linter.unusedVariables false
set_option linter.unusedSimpArgs false

/-- numbers, each with a blank behind it -/
def numT (l : List Int) : List UInt8 := l.flatMap fun n => Lib.itoa n ++ [32]

theorem numT_next (l : List Int) (q : Nat) (x : Int) (h : l[q]? = some x) : numT (l.take (q + 1)) = numT (l.take q) ++ (Lib.itoa x ++ [32]) := by
  rw [List.take_add_one, h]
  simp [numT]

theorem join_tail (a : List UInt8) (r : List (List UInt8)) (z : List UInt8) : Lib.join ((a :: r) ++ [z]) [32] = Lib.join (a :: r) [32] ++ ([32] ++ z) := by
  rw [List.cons_append, Lib.join_cons, Lib.join_cons]
  simp [Lib.joinTail]

theorem join_nums : ∀ (l : List Int) (z : List UInt8), Lib.join (l.map Lib.itoa ++ [z]) [32] = numT l ++ z
  | [], z => by simp [numT, Lib.join_one]
  | n :: l, z => by
    have ih := join_nums l z
    have e : Lib.join (Lib.itoa n :: (l.map Lib.itoa ++ [z])) [32] = Lib.itoa n ++ ([32] ++ Lib.join (l.map Lib.itoa ++ [z]) [32]) := by
      cases h : l.map Lib.itoa ++ [z] with
      | nil => simp at h
      | cons a r => rw [Lib.join_cons, Lib.join_cons]; simp [Lib.joinTail]
    rw [List.map_cons, List.cons_append, e, ih]
    simp [numT]

theorem text_put (r : Rc) : numT r.nums ++ hexW r.d ++ [32] ++ hexW r.c = r.text := by
  have h1 : r.words = (Lib.itoa r.k :: ([r.p, r.n, r.y, r.h.F, r.h.Q, r.h.T, r.h.L, r.h.B, r.h.K, r.id].map Lib.itoa ++ [hexW r.d])) ++ [hexW r.c] := rfl
  have h2 : (Lib.itoa r.k :: ([r.p, r.n, r.y, r.h.F, r.h.Q, r.h.T, r.h.L, r.h.B, r.h.K, r.id].map Lib.itoa ++ [hexW r.d])) = r.nums.map Lib.itoa ++ [hexW r.d] := rfl
  rw [Rc.text, h1, join_tail, h2, join_nums]
  simp only [List.append_assoc]

theorem numT_len (l : List Int) (h : ∀ n ∈ l, I64 n) : (numT l).length ≤ 22 * l.length := by
  induction l with
  | nil => simp [numT]
  | cons n l ih =>
    have h1 := Lib.itoa_length_le n (h n (by simp)).1 (h n (by simp)).2
    have h2 := ih (fun m hm => h m (List.mem_cons_of_mem _ hm))
    simp only [numT, List.flatMap_cons, List.length_append, List.length_cons, List.length_nil] at h2 ⊢
    omega

theorem entersItoa : ∀ args w, (callFunc 32 args).run Tryz.prog w = .ok (.enter 32 args) w := enters_of Tryz.func32 (by kernel_rfl) rfl

/-- a call of Itoa, as one step of a region that draws its order -/
theorem step_itoa {ops : Array Oper} {o : Oper} {a : Act} {w : World} {K : Act → World → Prop} {Q : Exit → Act → World → Prop} {E : Prop} {R : World → Prop} (hgd : o.guard = none) (arg : Operand)
    (ho : o.op = .call { callee := .value (.func 32), args := #[arg], argTypes := #[3] }) (v x : Value) (hv : a.eval arg = v)
    (hc : Calls Tryz.prog 32 #[v] w fun e w' => e = .returned x ∧ R w') (h : ∀ w', R w' → K (a.put o.dst x) w') :
    if Region.wanted o (yielded ops a.tmps) = true then Oper.wp Tryz.prog o a w K Q else E := by
  rw [if_pos (by simp [Region.wanted, hgd])]
  have eg := entersItoa
  have hrun : (execOp a.eval o).run Tryz.prog w = .ok (.enter 32 #[v]) w := by
    have hf : a.eval (.func 32) = .func (.func 32) #[] #[] := rfl
    simp [execOp, ho, resolve, hf, eg, go_sem, invoke]
    cases arg <;> simpa [Act.eval] using hv
  unfold Oper.wp
  rw [hrun, Oper.upon_enter]
  refine hc.mono ?_
  rintro e w' ⟨rfl, hr⟩
  exact h w' hr

/-- how far the numbers are written -/
def RtInv (W W1 wr : World) (gr : Nat) (R : Array Value) (r : Rc) (q : Nat) : Prop :=
  TextAt wr W1.heap.size (numT (r.nums.take q)) ∧ wr.heap[W1.heap.size + 1]? = some (.cells (ns r.nums).toArray 3 (0, 0)) ∧ wr.heap[gr]? = some (.cells R 33 (0, 0)) ∧ Below W1.heap.size W1 wr

set_option maxHeartbeats 2000000 in
set_option maxRecDepth 8000 in
theorem recText_any (r : Rc) (da : Option Addr) (dc : Nat) (ca : Option Addr) (cc : Nat) (w : World) (hi : r.ints) (ld : r.d.length ≤ maxLen) (hd : Lies w da (bs r.d)) (hc : Lies w ca (bs r.c)) (hL : LaidN w) :
    Calls Tryz.prog 26 #[rcV r da dc ca cc] w fun e w' => e = .returned (.tuple #[.string ⟨r.printed.toArray⟩, .int .i64 r.code]) ∧ Below w.heap.size w w' := by
  obtain ⟨W, hW⟩ : ∃ W, w.alloc (.cells #[.int .i64 r.k, .int .i64 r.p, .int .i64 r.n, .int .i64 r.y, .int .i64 r.h.F, .int .i64 r.h.Q, .int .i64 r.h.T, .int .i64 r.h.L, .int .i64 r.h.B, .int .i64 r.h.K, .int .i64 r.id, .slice da r.d.length dc, .slice ca r.c.length cc] 33) = W := ⟨_, rfl⟩
  have hBW : Below w.heap.size w W := by rw [← hW]; exact (Below.refl _ _).alloc (Nat.le_refl _) _
  have hbW : W.heap[w.heap.size]? = some (.cells #[.int .i64 r.k, .int .i64 r.p, .int .i64 r.n, .int .i64 r.y, .int .i64 r.h.F, .int .i64 r.h.Q, .int .i64 r.h.T, .int .i64 r.h.L, .int .i64 r.h.B, .int .i64 r.h.K, .int .i64 r.id, .slice da r.d.length dc, .slice ca r.c.length cc] 33 (0, 0)) := by rw [← hW, heap_alloc_eq, if_pos rfl]
  have hC := checkRec_any r da dc ca cc W hi ld
  simp only [rcV] at hC ⊢
  have q0 : W.cell? ⟨w.heap.size, 0, none⟩ = some (.int .i64 r.k) := cellB hbW 0 _ rfl
  have q1 : W.cell? ⟨w.heap.size, 1, none⟩ = some (.int .i64 r.p) := cellB hbW 1 _ rfl
  have q2 : W.cell? ⟨w.heap.size, 2, none⟩ = some (.int .i64 r.n) := cellB hbW 2 _ rfl
  have q3 : W.cell? ⟨w.heap.size, 3, none⟩ = some (.int .i64 r.y) := cellB hbW 3 _ rfl
  have q4 : W.cell? ⟨w.heap.size, 4, none⟩ = some (.int .i64 r.h.F) := cellB hbW 4 _ rfl
  have q5 : W.cell? ⟨w.heap.size, 5, none⟩ = some (.int .i64 r.h.Q) := cellB hbW 5 _ rfl
  have q6 : W.cell? ⟨w.heap.size, 6, none⟩ = some (.int .i64 r.h.T) := cellB hbW 6 _ rfl
  have q7 : W.cell? ⟨w.heap.size, 7, none⟩ = some (.int .i64 r.h.L) := cellB hbW 7 _ rfl
  have q8 : W.cell? ⟨w.heap.size, 8, none⟩ = some (.int .i64 r.h.B) := cellB hbW 8 _ rfl
  have q9 : W.cell? ⟨w.heap.size, 9, none⟩ = some (.int .i64 r.h.K) := cellB hbW 9 _ rfl
  have q10 : W.cell? ⟨w.heap.size, 10, none⟩ = some (.int .i64 r.id) := cellB hbW 10 _ rfl
  have q11 : W.cell? ⟨w.heap.size, 11, none⟩ = some (.slice da r.d.length dc) := cellB hbW 11 _ rfl
  have q12 : W.cell? ⟨w.heap.size, 12, none⟩ = some (.slice ca r.c.length cc) := cellB hbW 12 _ rfl
  by_cases hz : r.code = 0
  case neg =>
    have hp : r.printed = [] := if_neg hz
    rw [hp]
    have bz : (r.code != 0) = true := by simpa using hz
    generalize r.code = z at bz hC hz ⊢
    clear hz
    go_enter Tryz.func26, Tryz.ntmps26
    go_wp2_with fail
    refine hC.mono ?_
    rintro e W1 ⟨rfl, hb1⟩
    have hF := hBW.trans (hb1.mono hBW.size)
    clear hC hb1
    go_wp2
    go_ret2
    exact ⟨rfl, hF⟩
  have hp : r.printed = r.text := if_pos hz
  obtain ⟨sd, sc⟩ := code_short hz
  have ht := text_short hi hz
  rw [hp, hz]
  rw [hz] at hC
  have HT := Shut.mk ht
  clear ht hp hz
  go_enter Tryz.func26, Tryz.ntmps26
  go_wp2_with fail
  refine hC.mono ?_
  rintro e W1 ⟨rfl, hb1⟩
  have hF1 := hBW.trans (hb1.mono hBW.size)
  have hg1 := blkB hbW hb1
  have hL1 := hL.below hF1
  clear hC hW hbW q0 q1 q2 q3 q4 q5 q6 q7 q8 q9 q10 q11 q12
  go_upto_region 5 with fail
  generalize hW2 : W1.alloc (.cells #[.string { data := #[] }] 9) = W2
  have hb2 : Below W1.heap.size W1 W2 := by rw [← hW2]; exact (Below.refl _ _).alloc (Nat.le_refl _) _
  have ht2 : TextAt W2 W1.heap.size [] := by unfold TextAt; rw [← hW2, heap_alloc_eq, if_pos rfl]
  have hs2 : W2.heap.size = W1.heap.size + 1 := by rw [← hW2]; simp
  have hg2 := blkB hg1 hb2
  clear hW2
  have q0 : W2.cell? ⟨w.heap.size, 0, none⟩ = some (.int .i64 r.k) := cellB hg2 0 _ rfl
  have q1 : W2.cell? ⟨w.heap.size, 1, none⟩ = some (.int .i64 r.p) := cellB hg2 1 _ rfl
  have q2 : W2.cell? ⟨w.heap.size, 2, none⟩ = some (.int .i64 r.n) := cellB hg2 2 _ rfl
  have q3 : W2.cell? ⟨w.heap.size, 3, none⟩ = some (.int .i64 r.y) := cellB hg2 3 _ rfl
  have q4 : W2.cell? ⟨w.heap.size, 4, none⟩ = some (.int .i64 r.h.F) := cellB hg2 4 _ rfl
  have q5 : W2.cell? ⟨w.heap.size, 5, none⟩ = some (.int .i64 r.h.Q) := cellB hg2 5 _ rfl
  have q6 : W2.cell? ⟨w.heap.size, 6, none⟩ = some (.int .i64 r.h.T) := cellB hg2 6 _ rfl
  have q7 : W2.cell? ⟨w.heap.size, 7, none⟩ = some (.int .i64 r.h.L) := cellB hg2 7 _ rfl
  have q8 : W2.cell? ⟨w.heap.size, 8, none⟩ = some (.int .i64 r.h.B) := cellB hg2 8 _ rfl
  have q9 : W2.cell? ⟨w.heap.size, 9, none⟩ = some (.int .i64 r.h.K) := cellB hg2 9 _ rfl
  have q10 : W2.cell? ⟨w.heap.size, 10, none⟩ = some (.int .i64 r.id) := cellB hg2 10 _ rfl
  have q11 : W2.cell? ⟨w.heap.size, 11, none⟩ = some (.slice da r.d.length dc) := cellB hg2 11 _ rfl
  have q12 : W2.cell? ⟨w.heap.size, 12, none⟩ = some (.slice ca r.c.length cc) := cellB hg2 12 _ rfl
  go_upto_region 6 with fail
  generalize hW3 : W2.alloc (.cells #[.int .i64 r.k, .int .i64 r.p, .int .i64 r.n, .int .i64 r.y, .int .i64 r.h.F, .int .i64 r.h.Q, .int .i64 r.h.T, .int .i64 r.h.L, .int .i64 r.h.B, .int .i64 r.h.K, .int .i64 r.id] 3) = W3
  have hb3 : Below W2.heap.size W2 W3 := by rw [← hW3]; exact (Below.refl _ _).alloc (Nat.le_refl _) _
  have hn3 : W3.heap[W1.heap.size + 1]? = some (.cells (ns r.nums).toArray 3 (0, 0)) := by rw [← hW3, heap_alloc_eq, if_pos hs2.symm]; rfl
  have hB3 : Below W1.heap.size W1 W3 := hb2.trans (hb3.mono hb2.size)
  have H0 : Shut (RtInv W W1 W3 w.heap.size #[.int .i64 r.k, .int .i64 r.p, .int .i64 r.n, .int .i64 r.y, .int .i64 r.h.F, .int .i64 r.h.Q, .int .i64 r.h.T, .int .i64 r.h.L, .int .i64 r.h.B, .int .i64 r.h.K, .int .i64 r.id, .slice da r.d.length dc, .slice ca r.c.length cc] r 0) := ⟨blkB ht2 hb3, hn3, blkB hg2 hb3, hB3⟩
  have hw1 : w.heap.size < W1.heap.size := (Array.getElem?_eq_some_iff.1 hg1).1
  clear hW3 hb2 hb3 ht2 hg2 hn3 hB3 hs2 q0 q1 q2 q3 q4 q5 q6 q7 q8 q9 q10 q11 q12
  go_loopw [47] (fun m wr => ∃ q : Nat, q ≤ 11 ∧ m = .int .i64 q ∧ Shut (RtInv W W1 wr w.heap.size #[.int .i64 r.k, .int .i64 r.p, .int .i64 r.n, .int .i64 r.y, .int .i64 r.h.F, .int .i64 r.h.Q, .int .i64 r.h.T, .int .i64 r.h.L, .int .i64 r.h.B, .int .i64 r.h.K, .int .i64 r.id, .slice da r.d.length dc, .slice ca r.c.length cc] r q)) (fun m _ => 11 - (intOf m).toNat)
  case atStart => exact ⟨0, Nat.zero_le _, rfl, H0⟩
  case round =>
    clear H0
    obtain ⟨q, hq, rfl, hI⟩ := hrel
    obtain ⟨htx, hnr, hgr, hbr⟩ := hI.out
    by_cases hlt : q < 11
    · obtain ⟨x, hx⟩ : ∃ x, r.nums[q]? = some x := ⟨r.nums[q]'(by rw [Rc.nums_len]; exact hlt), List.getElem?_eq_getElem _⟩
      have hI64 : I64 x := Rc.ints_nums hi x (List.mem_of_getElem? hx)
      have cx : wr.cell? ⟨W1.heap.size + 1, q, none⟩ = some (.int .i64 x) := cellB hnr q _ (by rw [List.getElem?_toArray, ns, List.getElem?_map, hx]; rfl)
      have hLr := hL1.below hbr
      have hlen : (numT (r.nums.take q)).length ≤ 300 := by
        have := numT_len (r.nums.take q) (fun n hn => Rc.ints_nums hi n (List.mem_of_mem_take hn))
        rw [List.length_take, Rc.nums_len] at this
        omega
      have hil := Lib.itoa_length_le x hI64.1 hI64.2
      have hnx := numT_next r.nums q x hx
      have ct := htx.cell
      have ctd : wr.drew.cell? ⟨W1.heap.size, 0, none⟩ = some (.string ⟨(numT (r.nums.take q)).toArray⟩) := ct
      have hIt : ∀ W', Below wr.heap.size wr W' → Calls Tryz.prog 32 #[.int .i64 x] W' fun e w2 => e = .returned (.string ⟨(Lib.itoa x).toArray⟩) ∧ (Below wr.heap.size wr w2 ∧ w2.cell? ⟨W1.heap.size, 0, none⟩ = some (.string ⟨(numT (r.nums.take q)).toArray⟩) ∧ w2.frozen? ⟨W1.heap.size, 0, none⟩ = false) := by
        intro W' hW'
        refine (itoa_any x W' hI64 (hLr.below hW')).mono ?_
        rintro e w2 ⟨rfl, hb⟩
        have := hW'.trans (hb.mono hW'.size)
        exact ⟨rfl, this, cellW ct this, TextAt.free (blkB htx this)⟩
      have B0 : Below wr.heap.size wr wr := Below.refl _ _
      have B1 : Below wr.heap.size wr wr.drew := bdn wr 1 _
      obtain ⟨N3, hN3⟩ : ∃ N3, numT (r.nums.take (q + 1)) = N3 := ⟨_, rfl⟩
      have HS : Shut (({ data := (numT (r.nums.take q)).toArray } ++ ({ data := (Lib.itoa x).toArray } ++ { data := #[32] }) : ByteArray) = ⟨N3.toArray⟩) := ⟨by
        have h1 : ({ data := (Lib.itoa x).toArray } ++ { data := #[32] } : ByteArray) = ⟨(Lib.itoa x ++ [32]).toArray⟩ := catS _ [32]
        rw [h1, catS, ← hN3, hnx]⟩
      have HR : ∀ w2, Below wr.heap.size wr w2 → Shut (RtInv W W1 (w2.setCell ⟨W1.heap.size, 0, none⟩ (.string ⟨N3.toArray⟩)) w.heap.size #[.int .i64 r.k, .int .i64 r.p, .int .i64 r.n, .int .i64 r.y, .int .i64 r.h.F, .int .i64 r.h.Q, .int .i64 r.h.T, .int .i64 r.h.L, .int .i64 r.h.B, .int .i64 r.h.K, .int .i64 r.id, .slice da r.d.length dc, .slice ca r.c.length cc] r (q + 1)) := fun w2 hb2 =>
        ⟨by rw [hN3]; exact TextAt.set (blkB htx hb2) _, by rw [setCell_far _ _ (by omega)]; exact blkB hnr hb2, by rw [setCell_far _ _ (by omega)]; exact blkB hgr hb2, (hbr.trans (hb2.mono hbr.size)).setCell (p := ⟨W1.heap.size, 0, none⟩) (Nat.le_refl _) _⟩
      generalize hN1 : numT (r.nums.take q) = N1 at ct ctd hIt HS hlen
      generalize hN2 : Lib.itoa x = N2 at hIt HS hil
      have s1 : ¬ 9223372036854775807 < N2.length + 1 := by omega
      have s2 : ¬ 9223372036854775807 < N1.length + (N2.length + 1) := by omega
      go_upto_region 8 with fail
      go_region_law (first | (refine step_itoa rfl (.tmp 52) rfl (.int .i64 x) _ (by simp [Act.eval, Act.put]) (hIt _ (by assumption)) ?_; rintro w5 ⟨b5, x5, y5⟩))
      all_goals
        rw [HS.out]
        have R := HR w5 b5
        clear HR HS hIt
        go_wp2
        go_roundw
        case rel => exact ⟨q + 1, by omega, by go_num, R⟩
        case measure => simp [intOf]; omega
    · obtain rfl : q = 11 := by omega
      have htk : r.nums.take 11 = r.nums := rfl
      rw [htk] at htx
      have hnl := numT_len r.nums (Rc.ints_nums hi)
      rw [Rc.nums_len] at hnl
      have hFr := hF1.trans (hbr.mono hF1.size)
      have c11 : wr.cell? ⟨w.heap.size, 11, none⟩ = some (.slice da r.d.length dc) := cellB hgr 11 _ rfl
      have c12 : wr.cell? ⟨w.heap.size, 12, none⟩ = some (.slice ca r.c.length cc) := cellB hgr 12 _ rfl
      have hP1 := put_any da dc r.d W1.heap.size (numT r.nums) wr (by omega) (by omega) (hd.below hFr (Nat.le_refl _)) (lies_low hd (by omega)) htx
      have eg := entersPut
      have HTX := Shut.mk (text_put r)
      clear hI hnr hgr htk
      generalize numT r.nums = N1 at htx hP1 HTX hnl
      have hl1 := hexW_len r.d
      have hl2 := hexW_len r.c
      generalize hexW r.d = H1 at hP1 HTX hl1
      go_wp2_with fail
      refine hP1.mono ?_
      rintro e w6 ⟨rfl, ht6, hb6, hk6⟩
      have hF6 := hFr.trans (hb6.mono (by omega))
      have c12' : w6.cell? ⟨w.heap.size, 12, none⟩ = some (.slice ca r.c.length cc) := (hb6.cell (p := ⟨w.heap.size, 12, none⟩) hw1).trans c12
      have t6 := ht6.cell
      have f6 := ht6.free
      have hS6 := ht6.set (N1 ++ (H1 ++ [32]))
      have HB6 : Shut (Below w.heap.size w (w6.setCell ⟨W1.heap.size, 0, none⟩ (.string ⟨(N1 ++ (H1 ++ [32])).toArray⟩))) := ⟨hF6.setCell (p := ⟨W1.heap.size, 0, none⟩) (Nat.le_of_lt hw1) _⟩
      have c12s : (w6.setCell ⟨W1.heap.size, 0, none⟩ (.string ⟨(N1 ++ (H1 ++ [32])).toArray⟩)).cell? ⟨w.heap.size, 12, none⟩ = some (.slice ca r.c.length cc) := by
        rw [World.cell?_setCell_other _ _ _ _ (by intro e; injection e; omega)]
        exact c12'
      have hcat : ({ data := (N1 ++ H1).toArray } ++ { data := #[32] } : ByteArray) = ⟨(N1 ++ (H1 ++ [32])).toArray⟩ := by rw [← List.append_assoc]; exact catS _ [32]
      have s1 : ¬ 9223372036854775807 < (N1 ++ H1).length + 1 := by rw [List.length_append]; omega
      clear hP1 c11 c12
      go_upto_region 13 with fail
      generalize w6.setCell ⟨W1.heap.size, 0, none⟩ (.string ⟨(N1 ++ (H1 ++ [32])).toArray⟩) = w7 at hS6 HB6 c12s ⊢
      have hP2 := put_any ca cc r.c W1.heap.size (N1 ++ (H1 ++ [32])) w7 (by omega) (by rw [List.length_append, List.length_append]; simp; omega) (hc.below HB6.out (Nat.le_refl _)) (lies_low hc (by omega)) hS6
      generalize hexW r.c = H2 at hP2 HTX hl2
      clear hcat s1 t6 f6 c12' ht6 hb6 hk6 hS6
      go_wp2_with fail
      refine hP2.mono ?_
      rintro e w8 ⟨rfl, ht8, hb8, hk8⟩
      have hF8 := HB6.out.trans (hb8.mono (by omega))
      have t8 := ht8.cell
      have HE : Shut (N1 ++ (H1 ++ [32]) ++ H2 = r.text) := ⟨by rw [← HTX.out]; simp⟩
      generalize N1 ++ (H1 ++ [32]) ++ H2 = TX at t8 HE
      clear hP2 ht8 hb8 hk8
      go_wp2
      go_ret2
      exact ⟨by rw [← HE.out]; rfl, hF8⟩

end Go.Proofs.YtekdigbdfeamkaaGreatDoor
