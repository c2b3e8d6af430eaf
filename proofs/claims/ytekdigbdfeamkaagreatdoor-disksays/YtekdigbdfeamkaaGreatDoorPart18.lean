import Derived.Test.YtekdigbdfeamkaaGreatDoorPart17
import Derived.Test.YtekdigbdfeamkaaGreatDoorPart13
import Derived.Shelf.Abstract
import Derived.Test.YtekdigbdfeamkaaGreatDoorPart4
import Derived.Lib.AppendZeros
/-
  Chapter 8: the calls on a right disk that lies in memory, its lengths named.
-/
namespace Go.Proofs.YtekdigbdfeamkaaGreatDoor
open Go.RowKit
set_option linter.unusedVariables false
set_option linter.unusedSimpArgs false

/-- a disk in memory -/
structure DkIn (w : World) (s v : List UInt8) (sa : Option Addr) (n sc : Nat) (wa : Option Addr) (m wc : Nat) : Prop where
  hn : s.length = n
  hm : v.length = m
  hsc : n ≤ sc
  hwc : m ≤ wc
  ls : Lies w sa (bs s)
  lv : Lies w wa (bs v)

theorem DkIn.below {w w' : World} {s v : List UInt8} {sa : Option Addr} {n sc : Nat} {wa : Option Addr} {m wc : Nat} (h : DkIn w s v sa n sc wa m wc) (hb : Below w.heap.size w w') : DkIn w' s v sa n sc wa m wc :=
  ⟨h.hn, h.hm, h.hsc, h.hwc, h.ls.below hb (Nat.le_refl _), h.lv.below hb (Nat.le_refl _)⟩

theorem DkIn.far {w w' : World} {s v : List UInt8} {sa : Option Addr} {n sc : Nat} {wa : Option Addr} {m wc g : Nat} (h : DkIn w s v sa n sc wa m wc) (hk : ∀ k, k ≠ g → w'.heap[k]? = w.heap[k]?) (h1 : ∀ b o, sa = some ⟨b, o, none⟩ → g < b) (h2 : ∀ b o, wa = some ⟨b, o, none⟩ → g < b) : DkIn w' s v sa n sc wa m wc :=
  ⟨h.hn, h.hm, h.hsc, h.hwc, liesFar h.ls hk (fun b o e => Nat.ne_of_gt (h1 b o e)), liesFar h.lv hk (fun b o e => Nat.ne_of_gt (h2 b o e))⟩

/-- what a call leaves that answers a disk -/
def DkOut (B : Nat) (z : Int) (s v : List UInt8) (e : Ending) (w' : World) : Prop :=
  ∃ (sa : Option Addr) (n sc : Nat) (wa : Option Addr) (m wc : Nat), e = .returned (.tuple #[.agg #[.slice sa n sc, .slice wa m wc], .int .i64 z]) ∧ DkIn w' s v sa n sc wa m wc ∧ (∀ b o, sa = some ⟨b, o, none⟩ → B ≤ b) ∧ ∀ b o, wa = some ⟨b, o, none⟩ → B ≤ b

theorem DiskR.out {B : Nat} {z : Int} {s v : List UInt8} {e : Ending} {w' : World} (h : DiskR B z s v e w') : DkOut B z s v e w' := by
  obtain ⟨sa, sc, wa, wc, he, h1, h2, h3, h4, h5, h6⟩ := h
  exact ⟨sa, _, sc, wa, _, wc, he, ⟨rfl, rfl, h1, h2, h3, h4⟩, h5, h6⟩

/-- a right disk -/
def DkOk (s v : List UInt8) : Prop := s.length + v.length ≤ 60000 ∧ (linesL 200 s).2.2 = 0

theorem DkOk.code {s v : List UInt8} (h : DkOk s v) : dkCode s v = 0 := by
  have h1 := h.1
  rw [dkCode, if_neg (by omega)]
  exact h.2

section
variable {w : World} {s v : List UInt8} {sa : Option Addr} {n sc : Nat} {wa : Option Addr} {m wc : Nat}

theorem put_ok (h : DkIn w s v sa n sc wa m wc) (ok : DkOk s v) (r : Rc) (da : Option Addr) (dc : Nat) (ca : Option Addr) (cc : Nat) (hi : r.ints) (ld : r.d.length ≤ maxLen) (hd : Lies w da (bs r.d)) (hc : Lies w ca (bs r.c)) (hz : putCode s v r = 0) (hL : LaidN w) :
    Calls Tryz.prog 4 #[.agg #[.slice sa n sc, .slice wa m wc], rcV r da dc ca cc] w fun e w' => DkOut w.heap.size 0 s (v ++ (r.text ++ [10])) e w' ∧ Below w.heap.size w w' := by
  obtain ⟨rfl, rfl, h1, h2, h3, h4⟩ := h
  have h0 := ok.1
  refine (putD_any sa sc wa wc s v r da dc ca cc w (by omega) (by omega) h1 h3 h4 hi ld hd hc hL).mono ?_
  rintro e w' ⟨hp, hb⟩
  unfold PutR at hp
  rw [hz, if_pos rfl, if_pos rfl] at hp
  exact ⟨hp.out, hb⟩

theorem put_no (h : DkIn w s v sa n sc wa m wc) (ok : DkOk s v) (r : Rc) (da : Option Addr) (dc : Nat) (ca : Option Addr) (cc : Nat) (hi : r.ints) (ld : r.d.length ≤ maxLen) (hd : Lies w da (bs r.d)) (hc : Lies w ca (bs r.c)) (hz : putCode s v r ≠ 0) (hL : LaidN w) :
    Calls Tryz.prog 4 #[.agg #[.slice sa n sc, .slice wa m wc], rcV r da dc ca cc] w fun e w' => DkOut w.heap.size (putCode s v r) [] [] e w' ∧ Below w.heap.size w w' := by
  obtain ⟨rfl, rfl, h1, h2, h3, h4⟩ := h
  have h0 := ok.1
  refine (putD_any sa sc wa wc s v r da dc ca cc w (by omega) (by omega) h1 h3 h4 hi ld hd hc hL).mono ?_
  rintro e w' ⟨hp, hb⟩
  unfold PutR at hp
  rw [if_neg hz, if_neg hz] at hp
  exact ⟨hp.out, hb⟩

theorem sync_ok (h : DkIn w s v sa n sc wa m wc) (ok : DkOk s v) (ok2 : DkOk (s ++ v) []) (hL : LaidN w) :
    Calls Tryz.prog 5 #[.agg #[.slice sa n sc, .slice wa m wc]] w fun e w' => DkOut w.heap.size 0 (s ++ v) [] e w' ∧ Below w.heap.size w w' := by
  obtain ⟨rfl, rfl, h1, h2, h3, h4⟩ := h
  have h0 := ok.1
  have hz : syncCode s v = 0 := by rw [syncCode, if_pos ok.code, ok2.code]
  refine (syncD_any sa sc wa wc s v w (by omega) (by omega) h1 h3 h4 hL).mono ?_
  rintro e w' ⟨hp, hb⟩
  unfold SyncR at hp
  rw [hz, if_pos rfl] at hp
  exact ⟨hp.out, hb⟩

theorem crash_ok (h : DkIn w s v sa n sc wa m wc) (ok : DkOk s v) (k : Int) (k0 : 0 ≤ k) (k1 : k ≤ m) (hL : LaidN w) :
    Calls Tryz.prog 6 #[.agg #[.slice sa n sc, .slice wa m wc], .int .i64 k] w fun e w' => DkOut w.heap.size 0 s (v.take k.toNat) e w' ∧ Below w.heap.size w w' := by
  obtain ⟨rfl, rfl, h1, h2, h3, h4⟩ := h
  have h0 := ok.1
  have hz : crashCode s v k = 0 := by rw [crashCode, if_pos ok.code, if_neg (by omega)]
  refine (crashD_any sa sc wa wc s v k w (by omega) (by omega) h1 h3 h4 h2 ⟨by omega, by omega⟩ hL).mono ?_
  rintro e w' ⟨hp, hb⟩
  unfold CrashR at hp
  rw [hz, if_pos rfl, if_pos rfl] at hp
  exact ⟨hp.out, hb⟩

/-- what Recover leaves of a right disk -/
def RcOut (B : Nat) (t : List UInt8) (l : List Rc) (e : Ending) (w' : World) : Prop :=
  ∃ (L : List MRec) (q : Nat) (p : Option Addr) (cp : Nat) (sa : Option Addr) (n sc : Nat), e = .returned (.tuple #[.agg #[.slice sa n sc, .slice none 0 0], .slice p q cp, .int .i64 0]) ∧ L.length = q ∧ DkIn w' t [] sa n sc none 0 0 ∧ L.map MRec.r = l ∧ q ≤ cp ∧ Lies w' p (recCells L) ∧ (∀ y ∈ L, RecIn w' y ∧ RecNew B y) ∧ (∀ b o, sa = some ⟨b, o, none⟩ → B ≤ b) ∧ ∀ b o, p = some ⟨b, o, none⟩ → B ≤ b

theorem recov_ok (h : DkIn w s v sa n sc wa m wc) (ok : DkOk s v) (hL : LaidN w) :
    Calls Tryz.prog 7 #[.agg #[.slice sa n sc, .slice wa m wc]] w fun e w' => RcOut w.heap.size ((s ++ v).take (linesL 200 (s ++ v)).2.1) (linesL 200 (s ++ v)).1 e w' ∧ Below w.heap.size w w' := by
  obtain ⟨rfl, rfl, h1, h2, h3, h4⟩ := h
  have h0 := ok.1
  refine (recovD_any sa sc wa wc s v w (by omega) (by omega) h1 h3 h4 hL).mono ?_
  rintro e w' ⟨hp, hb⟩
  refine ⟨?_, hb⟩
  rcases hp with ⟨hz, _⟩ | ⟨_, L, p, cp, sa', sc', k, rfl, hk, e1, e2, e3, e4, e5, e6, e7, e8⟩
  · exact absurd ok.code hz
  · subst hk
    have hs := linesL_size 200 (s ++ v)
    exact ⟨L, _, p, cp, sa', _, sc', rfl, rfl, ⟨by rw [List.length_take]; omega, rfl, e3, Nat.le_refl _, e4, Lies.nil _ _⟩, e1, e2, e5, e6, e7, e8⟩

end

theorem linesT_snoc (l : List Rc) (r : Rc) : linesT (l ++ [r]) = linesT l ++ (r.text ++ [10]) := by
  rw [linesT_append]
  simp [linesT]

/-- a log of few right records is right -/
theorem DkOk.log {a : List Rc} {v : List UInt8} (ha : Goods a) (hl : a.length ≤ 200) (h : (linesT a).length + v.length ≤ 60000) : DkOk (linesT a) v :=
  ⟨h, by rw [linesL_log a ha hl]⟩

theorem putCode_room {a : List Rc} {v : List UInt8} {r : Rc} (hz : putCode (linesT a) v r = 0) (ok : DkOk (linesT a) v) : r.code = 0 ∧ (linesT a).length + (v ++ (r.text ++ [10])).length ≤ 60000 := by
  rw [putCode, if_pos ok.code] at hz
  split at hz
  · rename_i hr
    split at hz
    · rename_i hl
      exact ⟨hr, by simp only [List.length_append, List.length_singleton]; omega⟩
    · cases hz
  · rename_i hr
    exact absurd hz hr

end Go.Proofs.YtekdigbdfeamkaaGreatDoor

/-
  Chapter 8, the reference: a text cut behind each of its line ends.
-/
namespace Go.Proofs.YtekdigbdfeamkaaGreatDoor
open Go.RowKit
set_option linter.unusedVariables false
set_option linter.unusedSimpArgs false

/-- the pieces of a text, each with its line end -/
def piecesL : List UInt8 → List (List UInt8)
  | [] => [[]]
  | c :: r => if c = 10 then [10] :: piecesL r else match piecesL r with
    | [] => [[c]]
    | x :: xs => (c :: x) :: xs

theorem piecesL_ne (s : List UInt8) : piecesL s ≠ [] := by
  cases s with
  | nil => simp [piecesL]
  | cons c r =>
    simp only [piecesL]
    split
    · simp
    · split <;> simp

theorem piecesL_none : ∀ (a : List UInt8), (10 : UInt8) ∉ a → piecesL a = [a]
  | [], _ => rfl
  | c :: r, h => by
    have h1 : ¬ c = 10 := fun e => h (by simp [e])
    have h2 := piecesL_none r (fun e => h (List.mem_cons_of_mem _ e))
    simp only [piecesL, if_neg h1, h2]

theorem piecesL_hit : ∀ (a b : List UInt8), (10 : UInt8) ∉ a → piecesL (a ++ 10 :: b) = (a ++ [10]) :: piecesL b
  | [], b, _ => by simp [piecesL]
  | c :: r, b, h => by
    have h1 : ¬ c = 10 := fun e => h (by simp [e])
    have h2 := piecesL_hit r b (fun e => h (List.mem_cons_of_mem _ e))
    simp only [List.cons_append, piecesL, if_neg h1, h2]

theorem piecesL_index (s : List UInt8) : (Lib.index s [10] = -1 ∧ piecesL s = [s]) ∨ ∃ i : Nat, Lib.index s [10] = i ∧ i < s.length ∧ piecesL s = s.take (i + 1) :: piecesL (s.drop (i + 1)) := by
  have occ : ∀ j, Lib.occAt s [10] j = true ↔ s[j]? = some 10 := by
    intro j
    simp only [Lib.occAt]
    rw [← List.head?_drop]
    cases s.drop j with
    | nil => simp
    | cons a b =>
      simp only [List.isPrefixOf, Bool.and_true, beq_iff_eq, List.head?_cons, Option.some.injEq]
      exact ⟨fun e => e.symm, fun e => e.symm⟩
  rcases Lib.index_spec s [10] with ⟨h1, h2⟩ | ⟨i, h1, hi, h2, h3⟩
  · left
    refine ⟨h1, piecesL_none s ?_⟩
    intro hm
    obtain ⟨j, hj, e⟩ := List.getElem_of_mem hm
    have h5 := (occ j).2 (by rw [List.getElem?_eq_getElem hj, e])
    have h4 := h2 j (by omega)
    rw [h5] at h4
    cases h4
  · right
    have h4 := (occ i).1 h2
    have hlt : i < s.length := (List.getElem?_eq_some_iff.1 h4).1
    refine ⟨i, h1, hlt, ?_⟩
    have e : s = s.take i ++ 10 :: s.drop (i + 1) := by
      have h5 : s[i] = 10 := by
        have := List.getElem?_eq_getElem hlt
        rw [this] at h4
        simpa using h4
      have h6 := List.take_append_drop i s
      rw [List.drop_eq_getElem_cons hlt, h5] at h6
      exact h6.symm
    have e2 : s.take (i + 1) = s.take i ++ [10] := by
      rw [List.take_add_one, h4]; rfl
    have hn : (10 : UInt8) ∉ s.take i := by
      intro hm
      obtain ⟨j, hj, e⟩ := List.getElem_of_mem hm
      rw [List.getElem_take] at e
      have hj' : j < i := by rw [List.length_take] at hj; omega
      have h5 := (occ j).2 (by rw [List.getElem?_eq_getElem (by omega), e])
      have h6 := h3 j hj'
      rw [h5] at h6
      cases h6
    rw [e2, ← piecesL_hit _ _ hn, ← e]

theorem split_pieces : ∀ (k : Nat) (s : List UInt8), Lib.count s [10] = k → Lib.splitK [10] 1 k s = piecesL s
  | 0, s, h => by
    rcases piecesL_index s with ⟨h1, h2⟩ | ⟨i, h1, hi, h2⟩
    · rw [h2]; rfl
    · rw [Lib.count_hit (by simp) h1] at h; omega
  | k + 1, s, h => by
    rcases piecesL_index s with ⟨h1, h2⟩ | ⟨i, h1, hi, h2⟩
    · rw [Lib.count_miss h1] at h; omega
    · rw [Lib.count_hit (by simp) h1] at h
      have ih := split_pieces k (s.drop (i + 1)) (by simp at h; omega)
      rw [h2, Lib.splitK, h1]
      simp [ih]

set_option maxHeartbeats 1000000 in
theorem splitAfter_any (s : ByteArray) (w : World) (hs : s.size ≤ 60000) (hL : LaidN w) :
    Calls Tryz.prog 36 #[.string s, .string ⟨#[10]⟩] w fun e w' => ∃ ws : List ByteArray, e = .returned (.slice (some ⟨w.heap.size, 0, none⟩) ws.length ws.length) ∧ Lies w' (some ⟨w.heap.size, 0, none⟩) (ws.map Value.string) ∧ Below w.heap.size w w' ∧ ws.map (·.data.toList) = piecesL s.data.toList ∧ ws.length ≤ 60001 := by
  obtain ⟨m, hm⟩ := hL.mx
  have hle := Lib.countB_le ⟨#[10]⟩ (by decide) s.size s (Nat.le_refl _)
  have hlen := Lib.splitB_all ⟨#[10]⟩ (by decide) 1 _ s rfl
  have c := Tryz.strings_genSplit s ⟨#[10]⟩ 1 (-1) (Lib.countB s ⟨#[10]⟩ + 1) m w (by omega) hm (by decide) (by decide) (by decide) (by decide) (by rw [if_pos (by decide)]; omega)
  rw [Nat.add_sub_cancel, hlen] at c
  have e2 : Lib.cellsOf (Lib.splitB ⟨#[10]⟩ 1 (Lib.countB s ⟨#[10]⟩) s) (Lib.countB s ⟨#[10]⟩ + 1) = ((Lib.splitB ⟨#[10]⟩ 1 (Lib.countB s ⟨#[10]⟩) s).map Value.string).toArray := by rw [← hlen]; exact Lib.cellsOf_full _
  rw [e2] at c
  have hw : (Lib.splitB ⟨#[10]⟩ 1 (Lib.countB s ⟨#[10]⟩) s).map (·.data.toList) = piecesL s.data.toList := by
    rw [Lib.splitB_data]
    exact split_pieces _ _ rfl
  have R : Shut ((∀ T, Lies (w.alloc (.cells ((Lib.splitB ⟨#[10]⟩ 1 (Lib.countB s ⟨#[10]⟩) s).map Value.string).toArray T)) (some ⟨w.heap.size, 0, none⟩) ((Lib.splitB ⟨#[10]⟩ 1 (Lib.countB s ⟨#[10]⟩) s).map Value.string)) ∧ (Lib.splitB ⟨#[10]⟩ 1 (Lib.countB s ⟨#[10]⟩) s).map (·.data.toList) = piecesL s.data.toList ∧ (Lib.splitB ⟨#[10]⟩ 1 (Lib.countB s ⟨#[10]⟩) s).length = Lib.countB s ⟨#[10]⟩ + 1 ∧ Lib.countB s ⟨#[10]⟩ + 1 ≤ 60001) := ⟨fun T => by
      have := Lies.alloc_new w ((Lib.splitB ⟨#[10]⟩ 1 (Lib.countB s ⟨#[10]⟩) s).map Value.string).toArray T
      simpa using this, hw, hlen, by omega⟩
  clear hw hlen hle e2
  generalize Lib.splitB ⟨#[10]⟩ 1 (Lib.countB s ⟨#[10]⟩) s = ws at c R
  generalize Lib.countB s ⟨#[10]⟩ + 1 = n at c R
  have hwn : Shut (ws.length = n) := ⟨R.out.2.2.1⟩
  go_enter Tryz.func36, Tryz.ntmps36
  go_wp2_with fail
  refine c.mono ?_
  rintro e w1 ⟨rfl, rfl⟩
  clear c
  go_wp2
  go_ret
  exact ⟨ws, by rw [hwn.out]; rfl, R.out.1 _, (Below.refl _ _).alloc (Nat.le_refl _) _, R.out.2.1, by rw [hwn.out]; exact R.out.2.2.2⟩

theorem hasSuffix_any (s : ByteArray) (w : World) (hs : s.size ≤ 60000) :
    Calls Tryz.prog 37 #[.string s, .string ⟨#[10]⟩] w fun e w' => e = .returned (.bool (Lib.hasSuffix s.data.toList [10])) ∧ w' = w :=
  Tryz.strings_HasSuffix s ⟨#[10]⟩ w (by omega)

theorem suffix_hit (a : List UInt8) : Lib.hasSuffix (a ++ [10]) [10] = true := List.isSuffixOf_iff_suffix.2 ⟨a, rfl⟩

theorem suffix_none (a : List UInt8) (h : (10 : UInt8) ∉ a) : Lib.hasSuffix a [10] = false := by
  cases e : Lib.hasSuffix a [10]
  · rfl
  · obtain ⟨l, hl⟩ := List.isSuffixOf_iff_suffix.1 e
    exact absurd (by rw [← hl]; simp) h

end Go.Proofs.YtekdigbdfeamkaaGreatDoor

/-
  Chapter 8, the reference: linesOf.
-/
namespace Go.Proofs.YtekdigbdfeamkaaGreatDoor
open Go.RowKit
set_option linter.unusedVariables false
set_option linter.unusedSimpArgs false

/-- how far the lines are read, in memory -/
def RdS (m : Nat) (w wr : World) (v : Value) (l : List UInt8) (sz : Nat) : Prop :=
  ∃ L : List MRec, LogAt m l (L.map MRec.r) sz ∧ wr.ownsRow w.heap.size 33 13 v L.length (recCells L) ∧ (∀ y ∈ L, RecIn wr y ∧ RecOff v y ∧ RecNew w.heap.size y) ∧ Below w.heap.size w wr

/-- what linesOf leaves -/
def ReadS (m B : Nat) (l : List UInt8) (e : Ending) (w' : World) : Prop :=
  ∃ (L : List MRec) (p : Option Addr) (cp : Nat), e = .returned (.tuple #[.slice p L.length cp, .int .i64 ((linesL m l).2.1 : Int), .int .i64 (linesL m l).2.2]) ∧ L.map MRec.r = (linesL m l).1 ∧ L.length ≤ cp ∧ Lies w' p (recCells L) ∧ (∀ y ∈ L, RecIn w' y ∧ RecNew B y) ∧ (∀ b o, p = some ⟨b, o, none⟩ → B ≤ b)

/-- the lines end here -/
theorem ReadS.stop {m : Nat} {w00 w wr w2 : World} {l : List UInt8} {sz : Nat} {L : List MRec} {p1 : Option Addr} {c1 : Nat} {z : Int} (hI : LogAt m l (L.map MRec.r) sz ∧ wr.ownsRow w.heap.size 33 13 (.slice p1 L.length c1) L.length (recCells L) ∧ (∀ y ∈ L, RecIn wr y ∧ RecOff (.slice p1 L.length c1) y ∧ RecNew w.heap.size y) ∧ Below w.heap.size w wr)
    (h00 : Below w00.heap.size w00 w) (hlp : Lies wr p1 (recCells L)) (hpc : L.length ≤ c1) (hb : Below wr.heap.size wr w2) (he : linesL (m - (L.map MRec.r).length) (l.drop sz) = ([], 0, z)) : Below w00.heap.size w00 w2 ∧ ReadS m w00.heap.size l (.returned (.tuple #[.slice p1 L.length c1, .int .i64 (sz : Int), .int .i64 z])) w2 := by
  have hE := hI.1.stop he
  refine ⟨h00.trans ((hI.2.2.2.trans (hb.mono hI.2.2.2.size)).mono h00.size), L, p1, c1, ?_, ?_, hpc, hlp.below hb (Nat.le_refl _), fun y hy => ⟨(hI.2.2.1 y hy).1.below hb, (hI.2.2.1 y hy).2.2.mono h00.size⟩, fun b o e => Nat.le_trans h00.size (hI.2.1.lt b (by rw [e]; rfl)).1⟩
  · rw [hE]
  · rw [hE]

theorem RdS.step {m : Nat} {w wr wA w4 : World} {v v' : Value} {l : List UInt8} {sz : Nat} {L : List MRec} {y : MRec} {a r : List UInt8} (hI : LogAt m l (L.map MRec.r) sz ∧ wr.ownsRow w.heap.size 33 13 v L.length (recCells L) ∧ (∀ y ∈ L, RecIn wr y ∧ RecOff v y ∧ RecNew w.heap.size y) ∧ Below w.heap.size w wr)
    (hbA : Below wr.heap.size wr wA) (hs : l.drop sz = a ++ 10 :: r) (ha : (10 : UInt8) ∉ a) (hp : pCode a = 0) (hx : readL a = some y.r) (hm : L.length < m) (hyA : RecIn wA y) (hfd : ∀ b o, y.da = some ⟨b, o, none⟩ → wr.heap.size ≤ b) (hfc : ∀ b o, y.ca = some ⟨b, o, none⟩ → wr.heap.size ≤ b)
    (hown' : w4.ownsRow w.heap.size 33 13 v' (L.length + 1) (recCells L ++ y.cells)) (hg : wA.grownBy w4 v.ownBlock) (hvv : v'.ownBlock = v.ownBlock ∨ v'.ownBlock = some wA.heap.size) : RdS m w w4 v' l (sz + (a.length + 1)) := by
  obtain ⟨hlog, hown, hall, hbr⟩ := hI
  have hoff : RecOff v y := ⟨fun _ b o e e' => by have := hfd b o e; have := (hown.lt b e').2; omega, fun _ b o e e' => by have := hfc b o e; have := (hown.lt b e').2; omega⟩
  refine ⟨L ++ [y], ?_, ?_, ?_, ?_⟩
  · rw [List.map_append]
    exact hlog.next hs ha hp hx (by rw [List.length_map]; exact hm)
  · rw [recCells_append, List.length_append]
    have e : recCells [y] = y.cells := by simp [recCells]
    rw [e]
    exact hown'
  · intro u hu
    rcases List.mem_append.1 hu with hu | hu
    · have h1 := (hall u hu).1.below hbA
      have h2 := (hall u hu).2.1
      exact ⟨h1.grown h2 hg, ⟨h2.1.next h1.1 hvv, h2.2.next h1.2 hvv⟩, (hall u hu).2.2⟩
    · obtain rfl : u = y := by simpa using hu
      exact ⟨hyA.grown hoff hg, ⟨hoff.1.next hyA.1 hvv, hoff.2.next hyA.2 hvv⟩, fun b o e => Nat.le_trans hbr.size (hfd b o e), fun b o e => Nat.le_trans hbr.size (hfc b o e)⟩
  · have h1 := hbr.trans (hbA.mono hbr.size)
    exact h1.grown hg h1.size (fun k hk => (hown.lt k hk).1)

theorem str_cell {w : World} {b q : Nat} {ws : List ByteArray} {x : ByteArray} (h : Lies w (some ⟨b, 0, none⟩) (ws.map Value.string)) (hx : ws[q]? = some x) : w.cell? ⟨b, q, none⟩ = some (.string x) := by
  have := h.at (k := q) (u := .string x) (by rw [List.getElem?_map, hx]; rfl)
  rwa [Nat.zero_add] at this

theorem piece_at {ws : List ByteArray} {q : Nat} {x : ByteArray} {p : List UInt8} {ps : List (List UInt8)} (h : (ws.map (·.data.toList)).drop q = p :: ps) (hx : ws[q]? = some x) : x.data.toList = p ∧ (ws.map (·.data.toList)).drop (q + 1) = ps := by
  have h1 : ((ws.map (·.data.toList)).drop q)[0]? = some p := by rw [h]; rfl
  rw [List.getElem?_drop, List.getElem?_map] at h1
  simp only [Nat.add_zero, hx, Option.map_some, Option.some.injEq] at h1
  refine ⟨h1, ?_⟩
  have : (ws.map (·.data.toList)).drop (q + 1) = ((ws.map (·.data.toList)).drop q).drop 1 := by rw [List.drop_drop]
  rw [this, h]
  rfl

set_option maxHeartbeats 2000000 in
set_option maxRecDepth 8000 in
theorem linesOf_any (s : ByteArray) (m : Nat) (hm : m ≤ 200) (w : World) (hs : s.size ≤ 60000) (hL : LaidN w) :
    Calls Tryz.prog 23 #[.string s, .int .i64 m] w fun e w' => Below w.heap.size w w' ∧ ReadS m w.heap.size s.data.toList e w' := by
  obtain ⟨i0, hii, hz0, hz1, hz2⟩ := info_parts infoRec
  have hS := splitAfter_any s w hs hL
  obtain ⟨l, hl⟩ : ∃ l, s.data.toList = l := ⟨_, rfl⟩
  have hll : l.length ≤ 60000 := by rw [← hl]; simpa using hs
  rw [hl] at hS ⊢
  have HLL := Shut.mk hll
  clear hl hll
  go_enter Tryz.func23, Tryz.ntmps23
  go_wp2_with fail
  refine hS.mono ?_
  rintro e w0 ⟨ws, rfl, hlw, hb0, hws, hwl⟩
  clear hS
  obtain ⟨n, hn⟩ : ∃ n, ws.length = n := ⟨_, rfl⟩
  have HN := Shut.mk hn
  have HLW := Shut.mk hlw
  have HWS := Shut.mk hws
  rw [hn] at hwl ⊢
  have H0 : Shut (RdS m w0 w0 (.slice none 0 0) l 0 ∧ (ws.map (·.data.toList)).drop 0 = piecesL (l.drop 0)) := ⟨⟨[], LogAt.start m l, World.ownsRow_nil _ _ _ _, fun y hy => absurd hy (by simp), Below.refl _ _⟩, by simpa using hws⟩
  have HB0 := Shut.mk hb0
  clear hn hlw hws hb0
  go_wp2
  go_loopw [7, 8, 16] (fun v z i wr => ∃ q sz : Nat, q ≤ n ∧ sz ≤ 60000 ∧ i = .int .i64 q ∧ z = .int .i64 sz ∧ Shut (RdS m w0 wr v l sz ∧ (ws.map (·.data.toList)).drop q = piecesL (l.drop sz))) (fun _ _ i _ => n - (intOf i).toNat)
  case atStart => exact ⟨0, 0, Nat.zero_le _, by decide, rfl, rfl, H0⟩
  case round =>
    clear H0
    obtain ⟨q, sz, hq, hsz, rfl, rfl, hI⟩ := hrel
    obtain ⟨⟨L, hlog, hown, hall, hb0r⟩, hdrop⟩ := hI.out
    have hbr := HB0.out.trans (hb0r.mono HB0.out.size)
    have HI := Shut.mk (And.intro hlog (And.intro hown (And.intro hall hb0r)))
    obtain ⟨p1, c1, rfl, hlp, hpc⟩ := own_recs hown
    by_cases hlt : q < n
    · obtain ⟨x, hxq⟩ : ∃ x, ws[q]? = some x := ⟨_, List.getElem?_eq_getElem (by rw [HN.out]; exact hlt)⟩
      have c0 := str_cell (HLW.out.below hb0r (Nat.le_refl _)) hxq
      have hLr := hL.below hbr
      have HLP := Shut.mk hlp
      have HB0r := Shut.mk hb0r
      have hszl : Shut (sz ≤ l.length) := ⟨hlog.1⟩
      clear hI hlog hown hall hlp hb0r
      rcases line_cases (l.drop sz) with hno | ⟨a, r, ha, hsp⟩
      · rw [piecesL_none _ hno] at hdrop
        obtain ⟨hx1, _⟩ := piece_at hdrop hxq
        by_cases he : l.drop sz = []
        · have hx0 : x = ⟨#[]⟩ := by
            rw [he] at hx1
            cases x with
            | mk d => simp at hx1; simp [hx1]
          subst hx0
          have HE : Shut (linesL (m - (L.map MRec.r).length) (l.drop sz) = ([], 0, 0)) := ⟨by rw [linesL_none hno, if_pos he]⟩
          have F := Shut.mk (ReadS.stop HI.out HB0.out HLP.out hpc (Below.refl _ _) HE.out)
          clear hno hdrop hx1 he hxq HE
          go_wp2
          refine bodyPost_ret (v := .tuple #[.slice p1 L.length c1, .int .i64 (sz : Int), .int .i64 0]) (by simp [results, Tryz.results23, go_sem]) rfl ?_
          exact F.out
        · have hx0 : ¬ x = ⟨#[]⟩ := fun e => by
            rw [e] at hx1
            exact he hx1.symm
          have HE : Shut (linesL (m - (L.map MRec.r).length) (l.drop sz) = ([], 0, 9)) := ⟨by rw [linesL_none hno, if_neg he]⟩
          have F := Shut.mk (ReadS.stop HI.out HB0.out HLP.out hpc (Below.refl _ _) HE.out)
          have hxs : x.size ≤ 60000 := by
            have h1 := congrArg List.length hx1
            have h2 := HLL.out
            rw [List.length_drop] at h1
            have h3 : x.data.toList.length = x.size := by simp
            omega
          have hH := hasSuffix_any x wr hxs
          rw [hx1, suffix_none _ hno] at hH
          have hx2 : x.toList.isEmpty = false := by rw [ByteArray.toList_eq, hx1]; simpa using he
          clear hno hdrop hx1 he hxq HE hxs
          go_wp2_with fail
          refine hH.mono ?_
          rintro e w1 ⟨rfl, rfl⟩
          clear hH
          go_wp2
          refine bodyPost_ret (v := .tuple #[.slice p1 L.length c1, .int .i64 (sz : Int), .int .i64 9]) (by simp [results, Tryz.results23, go_sem]) rfl ?_
          exact F.out
      · rw [hsp, piecesL_hit _ _ ha] at hdrop
        obtain ⟨hx1, hdr2⟩ := piece_at hdrop hxq
        have hx0 : ¬ x = ⟨#[]⟩ := fun e => by
          rw [e] at hx1
          have := congrArg List.length hx1
          simp at this
        have hx2 : x.toList.isEmpty = false := by rw [ByteArray.toList_eq, hx1]; simp
        have hxn : x.size = a.length + 1 := by
          have h1 := congrArg List.length hx1
          have h3 : x.data.toList.length = x.size := by simp
          simp at h1
          omega
        have hal : sz + (a.length + 1) ≤ 60000 := by
          have h1 := congrArg List.length hsp
          have := HLL.out
          have := hszl.out
          rw [List.length_drop, List.length_append, List.length_cons] at h1
          omega
        have hH := hasSuffix_any x wr (by omega)
        rw [hx1, suffix_hit] at hH
        have hext : (x.extract 0 a.length).data.toList = a := by
          rw [Lib.extract_from_zero, hx1]; simp
        have hR := recReadF_any (x.extract 0 a.length) wr (by simp; omega) hLr
        rw [hext] at hR
        have hxm : IntKind.i64.wrap (((a.length + 1 : Nat) : Int) - 1) = (a.length : Int) := by rw [IntKind.wrap_i64]; omega
        have hxm2 : ((a.length + 1 : Nat) : Int) - 1 = (a.length : Int) := by omega
        have HS := Shut.mk (And.intro hsp (And.intro ha hdr2))
        clear hdrop hx1 hext hsp hdr2 hxq ha
        go_wp2_with fail
        refine hH.mono ?_
        rintro e wq ⟨rfl, hwq⟩
        obtain rfl := hwq.symm
        clear hH
        go_wp2_with fail
        refine hR.mono ?_
        rintro e w1 ⟨hb1, hR1⟩
        clear hR c0
        rcases hR1 with ⟨hp, rfl⟩ | ⟨hp, x, da, dc, ca, cc, hx, hxc, rfl, hld, hlc, hfd, hfc⟩
        · have HE : Shut (linesL (m - (L.map MRec.r).length) (l.drop sz) = ([], 0, pCode a)) := ⟨by rw [HS.out.1, linesL_bad r HS.out.2.1 hp]⟩
          have bz : (pCode a != 0) = true := by simpa using hp
          have bz2 : (pCode a == 0) = false := by simpa using hp
          clear hp
          generalize pCode a = z at bz bz2 HE ⊢
          simp only [rcV, rc0, List.length_nil]
          go_upto_region 10 with fail
          generalize hW2 : w1.alloc (.cells #[.int .i64 0, .int .i64 0, .int .i64 0, .int .i64 0, .int .i64 0, .int .i64 0, .int .i64 0, .int .i64 0, .int .i64 0, .int .i64 0, .int .i64 0, .slice none 0 0, .slice none 0 0] 33) = w2
          have hb2 : Below w1.heap.size w1 w2 := by rw [← hW2]; exact (Below.refl _ _).alloc (Nat.le_refl _) _
          have hb12 := hb1.trans (hb2.mono hb1.size)
          have F := Shut.mk (ReadS.stop HI.out HB0.out HLP.out hpc hb12 HE.out)
          clear hW2 hb2 hb12 hb1 HE
          go_wp2
          refine bodyPost_ret (v := .tuple #[.slice p1 L.length c1, .int .i64 (sz : Int), .int .i64 z]) (by simp [results, Tryz.results23, go_sem]) rfl ?_
          exact F.out
        · by_cases hmany : m ≤ L.length
          · have HE : Shut (linesL (m - (L.map MRec.r).length) (l.drop sz) = ([], 0, 2)) := ⟨by rw [List.length_map, show m - L.length = 0 by omega, HS.out.1, linesL_many r HS.out.2.1 hp]⟩
            have hmany' : (m : Int) ≤ (L.length : Int) := by omega
            clear hp hx hxc hfd hfc hld hlc
            simp only [rcV, rc0, List.length_nil]
            go_upto_region 10 with fail
            generalize hW2 : w1.alloc (.cells #[.int .i64 x.k, .int .i64 x.p, .int .i64 x.n, .int .i64 x.y, .int .i64 x.h.F, .int .i64 x.h.Q, .int .i64 x.h.T, .int .i64 x.h.L, .int .i64 x.h.B, .int .i64 x.h.K, .int .i64 x.id, .slice da x.d.length dc, .slice ca x.c.length cc] 33) = w2
            have hb2 : Below w1.heap.size w1 w2 := by rw [← hW2]; exact (Below.refl _ _).alloc (Nat.le_refl _) _
            have hb12 := hb1.trans (hb2.mono hb1.size)
            have F := Shut.mk (ReadS.stop HI.out HB0.out HLP.out hpc hb12 HE.out)
            clear hW2 hb2 hb12 hb1 HE
            go_wp2
            refine bodyPost_ret (v := .tuple #[.slice p1 L.length c1, .int .i64 (sz : Int), .int .i64 2]) (by simp [results, Tryz.results23, go_sem]) rfl ?_
            exact F.out
          · have hLm : L.length < m := by omega
            have hmany' : ¬ (m : Int) ≤ (L.length : Int) := by omega
            have HX := Shut.mk (And.intro hp (And.intro hx (And.intro hfd hfc)))
            clear hp hx hfd hfc hxc
            simp only [rcV, rc0, List.length_nil]
            go_upto_region 10 with fail
            generalize hW2 : w1.alloc (.cells #[.int .i64 x.k, .int .i64 x.p, .int .i64 x.n, .int .i64 x.y, .int .i64 x.h.F, .int .i64 x.h.Q, .int .i64 x.h.T, .int .i64 x.h.L, .int .i64 x.h.B, .int .i64 x.h.K, .int .i64 x.id, .slice da x.d.length dc, .slice ca x.c.length cc] 33) = w2
            have hb2 : Below w1.heap.size w1 w2 := by rw [← hW2]; exact (Below.refl _ _).alloc (Nat.le_refl _) _
            have hb12 := hb1.trans (hb2.mono hb1.size)
            have hq2 : w2.heap[w1.heap.size]? = some (.cells #[.int .i64 x.k, .int .i64 x.p, .int .i64 x.n, .int .i64 x.y, .int .i64 x.h.F, .int .i64 x.h.Q, .int .i64 x.h.T, .int .i64 x.h.L, .int .i64 x.h.B, .int .i64 x.h.K, .int .i64 x.id, .slice da x.d.length dc, .slice ca x.c.length cc] 33 (0, 0)) := by rw [← hW2, heap_alloc_eq, if_pos rfl]
            have hown2 := ownB HI.out.2.1 hb12
            replace hld := hld.below hb2 (Nat.le_refl _)
            replace hlc := hlc.below hb2 (Nat.le_refl _)
            clear hW2 hb2 hb1
            have q0 : w2.cell? ⟨w1.heap.size, 0, none⟩ = some (.int .i64 x.k) := cellB hq2 0 _ rfl
            have q1 : w2.cell? ⟨w1.heap.size, 1, none⟩ = some (.int .i64 x.p) := cellB hq2 1 _ rfl
            have q2 : w2.cell? ⟨w1.heap.size, 2, none⟩ = some (.int .i64 x.n) := cellB hq2 2 _ rfl
            have q3 : w2.cell? ⟨w1.heap.size, 3, none⟩ = some (.int .i64 x.y) := cellB hq2 3 _ rfl
            have q4 : w2.cell? ⟨w1.heap.size, 4, none⟩ = some (.int .i64 x.h.F) := cellB hq2 4 _ rfl
            have q5 : w2.cell? ⟨w1.heap.size, 5, none⟩ = some (.int .i64 x.h.Q) := cellB hq2 5 _ rfl
            have q6 : w2.cell? ⟨w1.heap.size, 6, none⟩ = some (.int .i64 x.h.T) := cellB hq2 6 _ rfl
            have q7 : w2.cell? ⟨w1.heap.size, 7, none⟩ = some (.int .i64 x.h.L) := cellB hq2 7 _ rfl
            have q8 : w2.cell? ⟨w1.heap.size, 8, none⟩ = some (.int .i64 x.h.B) := cellB hq2 8 _ rfl
            have q9 : w2.cell? ⟨w1.heap.size, 9, none⟩ = some (.int .i64 x.h.K) := cellB hq2 9 _ rfl
            have q10 : w2.cell? ⟨w1.heap.size, 10, none⟩ = some (.int .i64 x.id) := cellB hq2 10 _ rfl
            have q11 : w2.cell? ⟨w1.heap.size, 11, none⟩ = some (.slice da x.d.length dc) := cellB hq2 11 _ rfl
            have q12 : w2.cell? ⟨w1.heap.size, 12, none⟩ = some (.slice ca x.c.length cc) := cellB hq2 12 _ rfl
            have hsz2 := hb12.size
            have hszr := HB0r.out.size
            go_wp2_with (first | (at_builtin; refine wpList_append_own_at _ rfl _ _ 39 rfl w0.heap.size 33 i0 (rcV rc0 none 0 none 0) 13 136 Tryz.underlying39 hii hz0 hz1 hz2 rfl (by decide) _ _ _ rfl (hown2.alloc _) ⟨w2.heap.size, 0, none⟩ 1 1 [.int .i64 x.k, .int .i64 x.p, .int .i64 x.n, .int .i64 x.y, .int .i64 x.h.F, .int .i64 x.h.Q, .int .i64 x.h.T, .int .i64 x.h.L, .int .i64 x.h.B, .int .i64 x.h.K, .int .i64 x.id, .slice da x.d.length dc, .slice ca x.c.length cc] rfl rfl ?c1 ?c2 ?c3 ?c4 ?c5 ?_) | fail)
            case c2 => exact ⟨rfl, rfl, rfl, rfl, rfl, rfl, rfl, rfl, rfl, rfl, rfl, rfl, rfl⟩
            case c3 => unfold maxLen; omega
            case c4 => omega
            case c5 => omega
            intro v' w4 hown' hgrow _ hvv
            have hbA := hb12.alloc hsz2 (.cells #[.int .i64 x.k, .int .i64 x.p, .int .i64 x.n, .int .i64 x.y, .int .i64 x.h.F, .int .i64 x.h.Q, .int .i64 x.h.T, .int .i64 x.h.L, .int .i64 x.h.B, .int .i64 x.h.K, .int .i64 x.id, .slice da x.d.length dc, .slice ca x.c.length cc] 33)
            have R1 := RdS.step (y := ⟨x, da, dc, ca, cc⟩) HI.out hbA HS.out.1 HS.out.2.1 HX.out.1 HX.out.2.1 hLm ⟨hld.alloc _, hlc.alloc _⟩ HX.out.2.2.1 HX.out.2.2.2 hown' hgrow (by rw [show (w2.alloc (.cells #[.int .i64 x.k, .int .i64 x.p, .int .i64 x.n, .int .i64 x.y, .int .i64 x.h.F, .int .i64 x.h.Q, .int .i64 x.h.T, .int .i64 x.h.L, .int .i64 x.h.B, .int .i64 x.h.K, .int .i64 x.id, .slice da x.d.length dc, .slice ca x.c.length cc] 33)).heap.size = w2.heap.size + 1 from by simp]; exact hvv)
            have R : Shut (RdS m w0 w4 v' l (sz + (a.length + 1)) ∧ (ws.map (·.data.toList)).drop (q + 1) = piecesL (l.drop (sz + (a.length + 1)))) := ⟨R1, by
              rw [HS.out.2.2]
              congr 1
              rw [← List.drop_drop, HS.out.1]
              simp⟩
            clear hown' hgrow hvv hown2 hbA hld hlc hq2 q0 q1 q2 q3 q4 q5 q6 q7 q8 q9 q10 q11 q12 R1
            go_wp2
            go_roundw
            case rel => exact ⟨q + 1, sz + (a.length + 1), by omega, hal, by go_num, by go_num, R⟩
            case measure => simp [intOf]; omega
    · exfalso
      rw [List.drop_eq_nil_of_le (by rw [List.length_map, HN.out]; omega)] at hdrop
      exact piecesL_ne _ hdrop.symm

end Go.Proofs.YtekdigbdfeamkaaGreatDoor

/-
  slices.Grow of nothing and slices.Concat of blocks: the contract of each.
-/
namespace Go.Proofs.YtekdigbdfeamkaaGreatDoor
open Go.RowKit
set_option linter.unusedVariables false
set_option linter.unusedSimpArgs false

theorem zeroCells_size (z : Value) (n : Nat) : (Builtin.zeroCells #[z] n).size = n := by simp [Builtin.zeroCells]

theorem storeCells_nil {P : Program} (w : World) (a : Addr) (i : Nat) : (storeCells a [] i).run P w = .ok () w := rfl

/-- append of a slice that has nothing -/
theorem run_append_nothing {P : Program} (w : World) (t ty e : TypeId) (i : TypeInfo) (ht : P.underlying t = some (.slice e)) (hi : P.info? e = some i) (base : Option Addr) (n cap c : Nat) (h : n ≤ cap) :
    (Builtin.append_ #[t, t] ty #[.slice base n cap, .slice none 0 c]).run P w = .ok (.slice base n cap) w := by
  cases base with
  | none => simp [Builtin.append_, run_underlying ht, sizeOf, typeInfo, hi, Builtin.lenOf, Builtin.firstCells, h]
  | some a => simp [Builtin.append_, run_underlying ht, sizeOf, typeInfo, hi, Builtin.lenOf, Builtin.firstCells, h, storeCells_nil]

/-- how many bytes the first m have -/
def totTo (bl : List Blk) (m : Nat) : Nat := (((bl.map Blk.l).take m).flatten).length

theorem totTo_succ {bl : List Blk} {m : Nat} (h : m < bl.length) : totTo bl (m + 1) = totTo bl m + bl[m].l.length := by
  unfold totTo
  rw [List.take_succ_eq_append_getElem (by simpa using h)]
  simp

theorem totTo_le (bl : List Blk) (m : Nat) : totTo bl m ≤ ((bl.map Blk.l).flatten).length := by
  unfold totTo
  have h := congrArg (fun l => l.flatten.length) (List.take_append_drop m (bl.map Blk.l))
  simp only [List.flatten_append, List.length_append] at h
  omega

theorem concat_step {w wr w1 : World} {v v' : Value} {bl : List Blk} {m : Nat} (hlt : m < bl.length) (hb : Below w.heap.size w wr) (ho : wr.ownsRow w.heap.size 5 1 v (totTo bl m) (bs ((bl.map Blk.l).take m).flatten))
    (ho' : w1.ownsRow w.heap.size 5 1 v' (totTo bl m + bl[m].l.length) (bs ((bl.map Blk.l).take m).flatten ++ bs bl[m].l)) (hg : wr.grownBy w1 v.ownBlock) :
    w1.ownsRow w.heap.size 5 1 v' (totTo bl (m + 1)) (bs ((bl.map Blk.l).take (m + 1)).flatten) ∧ Below w.heap.size w w1 := by
  refine ⟨?_, hb.grown hg hb.size fun g hg' => (ho.lt g hg').1⟩
  rw [totTo_succ hlt, List.take_succ_eq_append_getElem (by simpa using hlt)]
  simpa [bs] using ho'

theorem lies_none {w : World} {l : List UInt8} (h : Lies w none (bs l)) : l = [] := by
  cases l with
  | nil => rfl
  | cons x r =>
    obtain ⟨_, _, e, _⟩ := h 0 _ (by simp [bs]; rfl)
    simp at e

theorem lies_add {w : World} {ad : Addr} {l : List UInt8} (h : Lies w (some ad) (bs l)) : ∀ j u, (bs l)[j]? = some u → w.cell? (ad.add j) = some u := by
  intro j u hu
  obtain ⟨b, o, e, hc⟩ := h j u hu
  simp at e
  subst e
  simpa [Addr.add_lit] using hc

theorem own_none {w : World} {B : Nat} {e : TypeId} {n q : Nat} {xs : List Value} (h : w.ownsRow B e 1 (.slice none n q) n xs) : q = 0 := by
  rcases h.2 with ⟨e1, h0⟩ | ⟨g, cap, cur, e1, hb, hg, hnc, hcm, hcs, htake⟩
  · simp at e1
    exact e1.2
  · simp at e1

end Go.Proofs.YtekdigbdfeamkaaGreatDoor

/-
  slices.Grow of nothing and slices.Concat of lists of bytes: the contract of each.
-/
namespace Go.Proofs.YtekdigbdfeamkaaGreatDoor
open Go.RowKit
set_option linter.unusedVariables false
set_option linter.unusedSimpArgs false

set_option maxRecDepth 8000 in
set_option maxHeartbeats 1000000 in
theorem growB_nil (s : Nat) (w : World) (hs : s ≤ 1048576) :
    Calls Tryz.prog 41 #[.slice none 0 0, .int .i64 s] w fun e w' => ∃ v, e = .returned v ∧ w'.ownsRow w.heap.size 5 1 v 0 [] ∧ Below w.heap.size w w' := by
  obtain ⟨i0, hi, hz0, hz1, hz2⟩ := info_parts infoU8
  by_cases h0 : s = 0
  · subst h0
    go_enter Tryz.func41, Tryz.ntmps41
    go_wp2
    go_ret
    exact ⟨_, rfl, World.ownsRow_nil _ _ _ _, Below.refl _ _⟩
  · have h1 : 0 < s := by omega
    have h2 : (0 : Int) < (s : Int) := by omega
    clear h0
    have hrz : ∀ ty, (Builtin.append_ #[22, 3] ty #[.slice none 0 0, .int .i64 s]).run Tryz.prog w = .ok (.slice (some ⟨w.heap.size, 0, none⟩) s (grownCap w s 0 5)) (w.drew.alloc (.cells (Builtin.zeroCells #[.int .u8 0] s ++ Builtin.zeroCells #[.int .u8 0] (grownCap w s 0 5 - s)) 5)) := fun ty =>
      Lib.run_append_nil_zeros w 22 3 ty 5 i0 (.int .u8 0) .i64 .i64 Tryz.underlying22 Tryz.underlying3 hi hz0 s h1 (by omega) (by omega) (by rw [hz2]; omega)
    have hGn : s ≤ grownCap w s 0 5 := grownCap_ge w _ _ _
    have hG63 := grownCap_le_maxLen w s 0 5 (by unfold maxLen; omega)
    have HR : Hid ((w.drew.alloc (.cells (Builtin.zeroCells #[.int .u8 0] s ++ Builtin.zeroCells #[.int .u8 0] (grownCap w s 0 5 - s)) 5)).ownsRow w.heap.size 5 1 (.slice (some ⟨w.heap.size, 0, none⟩) 0 (grownCap w s 0 5)) 0 []) :=
      ⟨rfl, .inr ⟨w.heap.size, _, _, rfl, Nat.le_refl _, (heap_alloc_eq w.drew _ _).trans (if_pos rfl), Nat.zero_le _, hG63, by simp [zeroCells_size]; omega, rfl⟩⟩
    generalize grownCap w s 0 5 = G at *
    unfold maxLen at hG63
    have hG : (G : Int) ≤ 9223372036854775807 := by omega
    clear hG63
    go_enter Tryz.func41, Tryz.ntmps41
    go_wp2_with (at_builtin; refine Lib.wpList_append_run _ rfl _ _ _ _ rfl _ _ rfl rfl _ _ (hrz _) ?_)
    all_goals
      go_ret
      exact ⟨_, rfl, HR.out, (Below.refl _ _).drew.alloc (Nat.le_refl _) _⟩

set_option maxRecDepth 8000 in
set_option maxHeartbeats 1000000 in
theorem concatB_any (a : Option Addr) (cap : Nat) (bl : List Blk) (w : World) (hn : bl.length ≤ maxLen) (htot : ((bl.map Blk.l).flatten).length ≤ 1048576) (ha : Lies w a (bl.map Blk.val)) (hall : AllIn w bl) :
    Calls Tryz.prog 27 #[.slice a bl.length cap] w fun e w' => ∃ v, e = .returned v ∧ w'.ownsRow w.heap.size 5 1 v ((bl.map Blk.l).flatten).length (bs (bl.map Blk.l).flatten) ∧ Below w.heap.size w w' := by
  obtain ⟨i0, hi, hz0, hz1, hz2⟩ := info_parts infoU8
  have HT : Hid (((bl.map Blk.l).flatten).length ≤ 1048576) := htot
  unfold maxLen at hn
  clear htot
  go_enter Tryz.func27, Tryz.ntmps27
  go_wp2
  go_loop [3, 11] (fun c i => ∃ m : Nat, m ≤ bl.length ∧ i = .int .i64 m ∧ c = .int .i64 (totTo bl m)) (fun _ i => bl.length - (intOf i).toNat)
  case atStart => exact ⟨0, Nat.zero_le _, rfl, rfl⟩
  case round =>
    obtain ⟨m, hm, rfl, rfl⟩ := hrel
    by_cases hlt : m < bl.length
    · obtain ⟨b1, o1, rfl⟩ := ha.some (k := m) (by simpa using hlt)
      have h1 : w.cell? ⟨b1, o1 + m, none⟩ = some (.slice bl[m].a bl[m].l.length bl[m].cap) := ha.at (by simp [hlt, Blk.val])
      have hs := totTo_succ hlt
      have hle := totTo_le bl (m + 1)
      have := HT.out
      have hb1 : totTo bl m ≤ 1048576 := by omega
      have hb2 : bl[m].l.length ≤ 1048576 := by omega
      have HS : Hid (totTo bl (m + 1) = totTo bl m + bl[m].l.length) := hs
      clear hs hle this
      go_wp2
      go_round
      case rel => exact ⟨m + 1, by omega, by go_num, congrArg (Value.int .i64) (by rw [HS.out]; simp)⟩
      case measure => simp [intOf]; omega
    · have HM : Hid (m = bl.length) := by have : m = bl.length := by omega
                                          exact this
      have hle := totTo_le bl m
      have := HT.out
      have hb1 : totTo bl m ≤ 1048576 := by omega
      clear hle this
      go_wp2_with fail
      refine (growB_nil _ _ hb1).mono ?_
      rintro e w1 ⟨v1, rfl, ho1, hb⟩
      clear hb1
      go_wp2
      go_loopw [6, 27] (fun v i wr => ∃ m : Nat, m ≤ bl.length ∧ i = .int .i64 m ∧ wr.ownsRow w.heap.size 5 1 v (totTo bl m) (bs ((bl.map Blk.l).take m).flatten) ∧ Below w.heap.size w wr) (fun _ i _ => bl.length - (intOf i).toNat)
      case atStart => exact ⟨0, Nat.zero_le _, rfl, ho1, hb⟩
      case round =>
        clear ho1 hb
        obtain ⟨m, hm, rfl, hown, hbw⟩ := hrel
        by_cases hlt : m < bl.length
        · obtain ⟨b1, o1, rfl⟩ := ha.some (k := m) (by simpa using hlt)
          have h1 : wr.cell? ⟨b1, o1 + m, none⟩ = some (.slice bl[m].a bl[m].l.length bl[m].cap) := (ha.below hbw (Nat.le_refl _)).at (by simp [hlt, Blk.val])
          have hla := (hall bl[m] (by simp)).1.below hbw (Nat.le_refl _)
          have hsz := hbw.size
          have hs := totTo_succ hlt
          have hle := totTo_le bl (m + 1)
          have := HT.out
          have hb1 : totTo bl m + bl[m].l.length ≤ 1048576 := by omega
          have HS : Hid (totTo bl (m + 1) = totTo bl m + bl[m].l.length) := hs
          clear hs hle this
          cases had : bl[m].a with
          | none =>
            rw [had] at h1 hla
            have HE : Hid (bl[m].l = []) := lies_none hla
            have h0 : bl[m].l.length = 0 := by rw [HE.out]; rfl
            rw [h0] at h1
            obtain ⟨p6, q6, rfl, hq6⟩ := own_slice hown
            have hq : p6 = none → q6 = 0 := fun e => by subst e; exact own_none hown
            have R : Hid (wr.ownsRow w.heap.size 5 1 (.slice p6 (totTo bl m) q6) (totTo bl (m + 1)) (bs ((bl.map Blk.l).take (m + 1)).flatten)) := by
              show wr.ownsRow w.heap.size 5 1 (.slice p6 (totTo bl m) q6) (totTo bl (m + 1)) (bs ((bl.map Blk.l).take (m + 1)).flatten)
              rw [HS.out, List.take_succ_eq_append_getElem (by simpa using hlt)]
              simpa [h0, HE.out] using hown
            clear had hla h0 hown hb1
            go_wp2_with (first | (at_builtin; refine Lib.wpList_append_run _ rfl _ _ _ _ rfl _ _ rfl rfl _ _ (run_append_nothing _ _ _ 5 i0 Tryz.underlying22 hi _ _ _ _ hq6) ?_) | go_in)
            go_roundw
            case rel => exact ⟨m + 1, by omega, by go_num, R.out, hbw⟩
            case measure => simp [intOf]; omega
          | some ad =>
            rw [had] at h1 hla
            clear had
            go_wp2_with (first | (at_builtin; refine wpList_append_own _ rfl _ _ 22 rfl w.heap.size 5 i0 (.int .u8 0) 1 1 Tryz.underlying22 hi hz0 hz1 hz2 rfl (by decide) _ _ _ rfl hown ad bl[m].l.length bl[m].cap (bs bl[m].l) rfl ?c0 ?c1 ?c2 ?c3 ?c4 ?c5 ?_) | go_in)
            case c0 => simp [bs_length]
            case c1 => exact lies_add hla
            case c2 =>
              intro u hu
              obtain ⟨x, _, rfl⟩ := List.mem_map.1 hu
              rfl
            case c3 => unfold maxLen; omega
            case c4 => omega
            case c5 => omega
            intro v' w1 hown' hgrow _
            have R := concat_step hlt hbw hown hown' hgrow
            clear hown' hgrow hown hbw h1 hla
            go_wp2
            go_roundw
            case rel => exact ⟨m + 1, by omega, by go_num, R.1, R.2⟩
            case measure => simp [intOf]; omega
        · have HK : Hid (m = bl.length) := by have : m = bl.length := by omega
                                              exact this
          go_wp2
          go_ret
          refine ⟨_, rfl, ?_, hbw⟩
          have hk := HK.out
          subst hk
          unfold totTo at hown
          rwa [List.take_of_length_le (by simp)] at hown

end Go.Proofs.YtekdigbdfeamkaaGreatDoor
