import Derived.Test.YtakkajjoeimkdaaGreatDoorPart6
import Derived.Test.YtakkajjoeimkdaaGreatDoorPart5
import Derived.Lib.SliceRun
import Derived.Deep.RegionHeld3
import Derived.RegionTactic
namespace Go.Proofs.YtakkajjoeimkdaaGreatDoor
open Go.RowKit
set_option linter.unusedVariables false
set_option linter.unusedSimpArgs false

theorem AddPost.anew {A : List LRow} {r : LRow} {n N a : Nat} {R : List MRow} {L : Nat → Nat} (hN : N = A.length + 1) (h7 : El (Vof R) N a n L) (h8 : ∀ v, Span (rowsOf (Vof R) N) v ↔ Span ((A ++ [r]).map LRow.v) v) : Anew n (A.map LRow.v) (LRow.v r) (Vof R) a L := by
 subst hN
 refine ⟨by simpa using h7, ?_⟩
 simpa using h8

theorem says_of_rows {R : List MRow} {P : List LRow} {n k a : Nat} (ha : a ≤ R.length) (hR : ∀ x ∈ R, Fits n k x.says) (hP : ∀ x ∈ P, Fits n k x) (h : rowsOf (Vof R) a = P.map LRow.v) : (R.take a).map MRow.says = P := by
 refine rows_inj (n := n) (k := k) ?_ hP ?_
 ·intro x hx
  obtain ⟨y, hy, rfl⟩ := List.mem_map.1 hx
  exact hR y (List.mem_of_mem_take hy)
 ·rw [← h]
  unfold rowsOf
  apply List.ext_getElem
  ·simp [ha]
  ·intro i p1 p2
   simp at p1 p2
   rw [List.getElem_map, List.getElem_map, List.getElem_map, List.getElem_range, List.getElem_take, Vof_at (by omega)]

section
variable {w w' : World} {n k : Nat} {A : List LRow} {r : LRow} {e : Ending}

theorem AddPost.same (hR : Right n k A) (hr : Fits n k r) (h : AddPost w w' n k (A.length + 1) ((A ++ [r]).map LRow.v) e) (hp : red n (A.map LRow.v) (LRow.v r) = V.o) :
  Below w.heap.size w w' ∧ ∃ (g cap : Nat) (rows : List MRow), e = .returned (.tuple #[.agg #[.int .i64 n, .int .i64 k, .slice (some ⟨g, 0, none⟩) A.length cap], .bool false, .int .i64 0]) ∧ Lies w' (some ⟨g, 0, none⟩) (rowCells rows) ∧ (∀ x ∈ rows, RowIn w' x) ∧ rows.map MRow.says = A := by
 obtain ⟨hb, R, a, L, i4, i6, i7, i8, hc⟩ := h
 have hA := AddPost.anew rfl i7 i8
 obtain ⟨e1, e2, e3⟩ := hA.same hR.of (LRow.v_of hr) hR.sys hp
 simp only [List.length_map] at e1 e3
 refine ⟨hb, ?_⟩
 rcases hc with ⟨h1, _⟩ | ⟨h1, ⟨j, hj⟩, _⟩ | ⟨h1, _, g, cap, h2, h3⟩
 ·omega
 ·exfalso
  rw [e1, e3] at hj
  exact hj rfl
 ·refine ⟨g, cap, R.take a, by rw [h2, e1], h3, fun x hx => (i6 x (List.mem_of_mem_take hx)).1, ?_⟩
  exact says_of_rows (by omega) (fun x hx => (i6 x hx).2) hR.fits e2

theorem AddPost.torn (hR : Right n k A) (hr : Fits n k r) (h : AddPost w w' n k (A.length + 1) ((A ++ [r]).map LRow.v) e) (hp : None' (red n (A.map LRow.v) (LRow.v r))) (hne : red n (A.map LRow.v) (LRow.v r) ≠ V.o) :
  Below w.heap.size w w' ∧ e = .returned (.tuple #[.agg #[.int .i64 0, .int .i64 0, .slice none 0 0], .bool false, .int .i64 9]) := by
 obtain ⟨hb, R, a, L, i4, i6, i7, i8, hc⟩ := h
 have hA := AddPost.anew rfl i7 i8
 obtain ⟨e1, e2, e3⟩ := hA.torn hR.of (LRow.v_of hr) hR.sys hp hne
 simp only [List.length_map] at e1 e2 e3
 refine ⟨hb, ?_⟩
 rcases hc with ⟨h1, _⟩ | ⟨h1, _, h2⟩ | ⟨h1, h0, _⟩
 ·omega
 ·exact h2
 ·exfalso
  rw [e1] at h0
  exact e3 (V.ext' (fun j => e2 j) (fun j => h0 j))

theorem AddPost.more {P : List LRow} (hR : Right n k A) (hr : Fits n k r) (h : AddPost w w' n k (A.length + 1) ((A ++ [r]).map LRow.v) e) (hP : Right n k P) (hl : P.length = A.length + 1) (hsp : ∀ v, Span (P.map LRow.v) v ↔ Span ((A ++ [r]).map LRow.v) v) :
  Below w.heap.size w w' ∧ ∃ (g cap : Nat) (rows : List MRow), e = .returned (.tuple #[.agg #[.int .i64 n, .int .i64 k, .slice (some ⟨g, 0, none⟩) (A.length + 1) cap], .bool true, .int .i64 0]) ∧ Lies w' (some ⟨g, 0, none⟩) (rowCells rows) ∧ (∀ x ∈ rows, RowIn w' x) ∧ rows.map MRow.says = P := by
 obtain ⟨hb, R, a, L, i4, i6, i7, i8, hc⟩ := h
 have hA := AddPost.anew rfl i7 i8
 have e2 := hA.more hR.of (LRow.v_of hr) hP.sys (by simpa using hsp)
 have ea : a = A.length + 1 := by
  have := congrArg List.length e2
  rw [rowsOf_length, List.length_map, hl] at this
  exact this
 refine ⟨hb, ?_⟩
 rcases hc with ⟨h1, g, cap, h2, h3⟩ | ⟨h1, _⟩ | ⟨h1, _⟩
 ·refine ⟨g, cap, R, h2, h3, fun x hx => (i6 x hx).1, ?_⟩
  have := says_of_rows (by omega) (fun x hx => (i6 x hx).2) hP.fits e2
  rwa [List.take_of_length_le (by omega)] at this
 ·omega
 ·omega

end

def holdL (A : List LRow) (f : Nat) : Nat := A.countP fun r => r.1.getD f false

theorem hold_one {A : List LRow} {i f : Nat} (hi : i < A.length) (hf : A[i].1.getD f false = true) : holdL A f = 1 ↔ ∀ j (hj : j < A.length), j ≠ i → A[j].1.getD f false = false := by
 have hs : A = A.take i ++ A[i] :: A.drop (i + 1) := by rw [List.getElem_cons_drop, List.take_append_drop]
 have hc : holdL A f = (A.take i).countP (fun r => r.1.getD f false) + (A.drop (i + 1)).countP (fun r => r.1.getD f false) + 1 := by
  unfold holdL
  conv => lhs; rw [hs]
  have hp : (fun r : LRow => r.1.getD f false) A[i] = true := hf
  rw [List.countP_append, List.countP_cons_of_pos (p := fun r : LRow => r.1.getD f false) hp]
  omega
 constructor
 ·intro h j hj hne
  have h1 : (A.take i).countP (fun r => r.1.getD f false) = 0 := by omega
  have h2 : (A.drop (i + 1)).countP (fun r => r.1.getD f false) = 0 := by omega
  rw [List.countP_eq_zero] at h1 h2
  rcases Nat.lt_or_gt_of_ne hne with hlt | hlt
  ·have := h1 A[j] (by
    have e : (A.take i)[j]'(by simp; omega) = A[j] := List.getElem_take
    rw [← e]; exact List.getElem_mem _)
   simpa using this
  ·have := h2 A[j] (by
    have e : (A.drop (i + 1))[j - (i + 1)]'(by simp; omega) = A[j] := by rw [List.getElem_drop]; congr 1; omega
    rw [← e]; exact List.getElem_mem _)
   simpa using this
 ·intro h
  have h1 : (A.take i).countP (fun r => r.1.getD f false) = 0 := by
   rw [List.countP_eq_zero]
   intro x hx
   obtain ⟨j, hj, rfl⟩ := List.getElem_of_mem hx
   simp at hj
   rw [List.getElem_take]
   have := h j (by omega) (by omega)
   show ¬ A[j].1.getD f false = true
   rw [this]
   simp
  have h2 : (A.drop (i + 1)).countP (fun r => r.1.getD f false) = 0 := by
   rw [List.countP_eq_zero]
   intro x hx
   obtain ⟨j, hj, rfl⟩ := List.getElem_of_mem hx
   simp at hj
   rw [List.getElem_drop]
   have := h (i + 1 + j) (by omega) (by omega)
   show ¬ A[i + 1 + j].1.getD f false = true
   rw [this]
   simp
  omega

theorem clrL_first {n k f : Nat} {p s : LRow} (hp : Fits n k p) (hs : Fits n k s) (hf : firstI p.1 = f) (hl : ∃ m, Lead (LRow.v s) m) (hz : ∀ j, Lead (LRow.v s) j → (LRow.v p).has j = false) : firstI (clrL p s).1 = firstI s.1 := by
 obtain ⟨m, hm⟩ := hl
 have hpl : Lead (LRow.v p) f := firstI_lead.1 hf
 have hne : m ≠ f := fun e => by
  have := hz m hm
  rw [e, hpl.1] at this
  cases this
 have h := clr_lead hpl hm (hz m hm) hne
 rw [← clrL_v hp hs hf] at h
 rw [firstI_lead.2 h, firstI_lead.2 hm]

def posL (A : List LRow) (f : Int) : Nat := A.findIdx fun s => decide (f < firstI s.1)

theorem posL_le (A : List LRow) (f : Int) : posL A f ≤ A.length := List.findIdx_le_length

theorem posL_low {A : List LRow} {f : Int} (h : ∀ s ∈ A, firstI s.1 ≠ f) : posL A f = (lowL A f).length := by
 unfold posL lowL
 induction A with
 | nil => rfl
 | cons s A ih =>
  have hs := h s List.mem_cons_self
  rw [List.findIdx_cons, List.takeWhile_cons]
  by_cases e : firstI s.1 < f
  ·have e2 : decide (f < firstI s.1) = false := decide_eq_false (by omega)
   simp only [e2, cond_false, decide_eq_true e, if_true, List.length_cons]
   rw [ih fun x hx => h x (List.mem_cons_of_mem _ hx)]
  ·have e2 : decide (f < firstI s.1) = true := decide_eq_true (by omega)
   simp [e2, e]

theorem posL_map {A : List LRow} {f : Int} {g : LRow → LRow} (h : ∀ s ∈ A, firstI (g s).1 = firstI s.1) : posL (A.map g) f = posL A f := by
 unfold posL
 induction A with
 | nil => rfl
 | cons s A ih =>
  rw [List.map_cons, List.findIdx_cons, List.findIdx_cons, h s List.mem_cons_self, ih fun x hx => h x (List.mem_cons_of_mem _ hx)]

theorem insL_pos {A : List LRow} {p : LRow} {f : Int} (h : ∀ s ∈ A, firstI s.1 ≠ f) : insL (lowL A f) (highL A f) p = (A.map (clrL p)).take (posL A f) ++ p :: (A.map (clrL p)).drop (posL A f) := by
 rw [posL_low h]
 have e : A.map (clrL p) = (lowL A f).map (clrL p) ++ (highL A f).map (clrL p) := by rw [← List.map_append, low_high]
 rw [e]
 have l : (lowL A f).length = ((lowL A f).map (clrL p)).length := by simp
 rw [l, List.take_left, List.drop_left]
 rfl

theorem Right.lead_one {n k : Nat} {A : List LRow} (h : Right n k A) {r s : LRow} (hr : r ∈ A) (hs : s ∈ A) {j : Nat} (h1 : firstI r.1 = j) (h2 : firstI s.1 = j) : s = r := by
 have e := h.sys.apart (List.mem_map_of_mem hr) (List.mem_map_of_mem hs) (firstI_lead.1 h1) (firstI_lead.1 h2).1
 exact LRow.v_inj (h.fits s hs) (h.fits r hr) e

theorem count_one {h : List Bool} {j : Nat} (hj : firstI h = j) : h.count true = 1 ↔ ¬ true ∈ h.drop (j + 1) := by
 rcases firstI_range h with e | ⟨m, e, hm, ht, hl⟩
 ·omega
 have : m = j := by omega
 subst this
 have hs : h = h.take m ++ h[m] :: h.drop (m + 1) := by rw [List.getElem_cons_drop, List.take_append_drop]
 have h0 : (h.take m).count true = 0 := List.count_eq_zero.2 fun hx => by
  obtain ⟨i, hi, he⟩ := List.getElem_of_mem hx
  simp at hi
  rw [List.getElem_take] at he
  have := hl i (by omega)
  rw [List.getD_eq_getElem?_getD, List.getElem?_eq_getElem (by omega)] at this
  simp only [Option.getD_some] at this
  rw [this] at he
  cases he
 have hm' : h[m] = true := by
  rw [List.getD_eq_getElem?_getD, List.getElem?_eq_getElem hm] at ht
  exact ht
 have hc : h.count true = (h.drop (m + 1)).count true + 1 := by
  conv => lhs; rw [hs]
  rw [List.count_append, h0, hm', List.count_cons_self]
  omega
 rw [hc]
 constructor
 ·intro hh
  exact List.count_eq_zero.1 (by omega)
 ·intro hh
  rw [List.count_eq_zero.2 hh]

theorem known_has {n k : Nat} {A : List LRow} (hA : Right n k A) {r : LRow} (hr : r ∈ A) {j : Nat} (hj : j < n) (hc : r.1.count true = 1) (hf : firstI r.1 = j) : (knownL n A)[j]? = some r.2 := by
 have key : ∀ (B : List LRow), (∀ s ∈ B, s ∈ A) → ∀ (l : List (List UInt8)), l.length = n → (r ∈ B ∨ l[j]? = some r.2) → (B.foldl kSet l)[j]? = some r.2 := by
  intro B
  induction B with
  | nil =>
   intro _ l _ h
   rcases h with h | h
   ·cases h
   ·exact h
  | cons s B ih =>
   intro hB l hl h
   rw [List.foldl_cons]
   refine ih (fun x hx => hB x (List.mem_cons_of_mem _ hx)) _ (by rw [kSet_length]; exact hl) ?_
   by_cases e : s = r
   ·subst e
    refine .inr ?_
    simp only [kSet, hc, if_true, hf, Int.toNat_natCast]
    rw [List.getElem?_set_self (by omega)]
   ·rcases h with h | h
    ·rcases List.mem_cons.1 h with h | h
     ·exact absurd h.symm e
     ·exact .inl h
    ·refine .inr ?_
     unfold kSet
     split
     ·rename_i hc2
      obtain ⟨F, hF, _⟩ := count_first hc2
      rw [hF]
      simp only [Int.toNat_natCast]
      have hne : F ≠ j := fun e2 => e (hA.lead_one hr (hB s List.mem_cons_self) hf (by rw [hF, e2]))
      rw [List.getElem?_set_ne hne]
      exact h
     ·exact h
 exact key A (fun s hs => hs) _ (by simp) (.inl hr)

theorem cloneH_any (b o cap n : Nat) (xs : List Bool) (w : World) (hx : xs.length = n) (hn : n ≤ 24) (ha : Lies w (some ⟨b, o, none⟩) (xs.map Value.bool)) :
  Calls Tryz.prog 226 #[.slice (some ⟨b, o, none⟩) n cap] w fun e w' => ∃ (p : Option Addr) (q : Nat), e = .returned (.slice p n q) ∧ Lies w' p (xs.map Value.bool) ∧ Below w.heap.size w w' ∧ n ≤ q ∧ ∀ c o, p = some ⟨c, o, none⟩ → w.heap.size ≤ c := by
 subst hx
 obtain ⟨i0, hi, hz0, hz1, hz2⟩ := info_parts infoBool
 have hne : ∀ W : World, (binOp .eql 231 (.slice (some ⟨b, o, none⟩) xs.length cap) (.slice none 0 0)).run Tryz.prog W = .ok (.bool false) W := fun W => Lib.run_eql_slice_nil W 231 4 (some ⟨b, o, none⟩) xs.length cap 0 0 Tryz.underlying231
 go_enter Tryz.func226, Tryz.ntmps226
 have hown : (w.alloc (.cells #[] 4)).ownsRow w.heap.size 4 1 (.slice (some ⟨w.heap.size, 0, none⟩) 0 0) 0 [] :=
  ⟨rfl, .inr ⟨w.heap.size, 0, #[], rfl, Nat.le_refl _, by rw [heap_alloc_eq, if_pos rfl], Nat.le_refl _, by unfold maxLen; omega, rfl, rfl⟩⟩
 have hla := ha.alloc (.cells #[] 4)
 clear ha
 go_wp2_with (first | (at_builtin; refine wpList_append_own _ rfl _ _ 231 rfl w.heap.size 4 i0 (.bool false) 1 1 Tryz.underlying231 hi hz0 hz1 hz2 rfl (by decide) _ _ _ rfl hown ⟨b, o, none⟩ xs.length cap (xs.map Value.bool) rfl ?c0 ?c1 ?c2 ?c3 ?c4 ?c5 ?_) | go_in)
 case c0 => simp
 case c1 =>
  intro j u hj
  have := hla.at hj
  simpa [Addr.add_lit] using this
 case c2 =>
  intro v hv
  obtain ⟨x, _, rfl⟩ := List.mem_map.1 hv
  rfl
 case c3 => unfold maxLen; omega
 case c4 => omega
 case c5 => simp
 intro v' w' hown' hgrow _
 have hb : Below w.heap.size w w' := ((Below.refl _ _).alloc (Nat.le_refl _) _).grown hgrow (by simp) fun g hg => (hown.lt g hg).1
 clear hgrow hown hla
 obtain ⟨p, q, hv, hpq⟩ := own_slice hown'
 subst hv
 obtain ⟨p', q', hv', hlp, _⟩ := own_lies hown'
 cases hv'
 go_wp2
 go_ret
 exact ⟨p, q, rfl, hlp, hb, hpq, fun c o e => by subst e; exact (hown'.lt c rfl).1⟩

theorem cloneD_any (b o cap k : Nat) (xs : List UInt8) (w : World) (hx : xs.length = k) (hn : k ≤ 16) (ha : Lies w (some ⟨b, o, none⟩) (bs xs)) :
  Calls Tryz.prog 128 #[.slice (some ⟨b, o, none⟩) k cap] w fun e w' => ∃ (p : Option Addr) (q : Nat), e = .returned (.slice p k q) ∧ Lies w' p (bs xs) ∧ Below w.heap.size w w' ∧ k ≤ q ∧ ∀ c o, p = some ⟨c, o, none⟩ → w.heap.size ≤ c := by
 subst hx
 obtain ⟨i0, hi, hz0, hz1, hz2⟩ := info_parts infoU8
 have hne : ∀ W : World, (binOp .eql 36 (.slice (some ⟨b, o, none⟩) xs.length cap) (.slice none 0 0)).run Tryz.prog W = .ok (.bool false) W := fun W => Lib.run_eql_slice_nil W 36 5 (some ⟨b, o, none⟩) xs.length cap 0 0 Tryz.underlying36
 go_enter Tryz.func128, Tryz.ntmps128
 have hown : (w.alloc (.cells #[] 5)).ownsRow w.heap.size 5 1 (.slice (some ⟨w.heap.size, 0, none⟩) 0 0) 0 [] :=
  ⟨rfl, .inr ⟨w.heap.size, 0, #[], rfl, Nat.le_refl _, by rw [heap_alloc_eq, if_pos rfl], Nat.le_refl _, by unfold maxLen; omega, rfl, rfl⟩⟩
 have hla := ha.alloc (.cells #[] 5)
 clear ha
 go_wp2_with (first | (at_builtin; refine wpList_append_own _ rfl _ _ 36 rfl w.heap.size 5 i0 (.int .u8 0) 1 1 Tryz.underlying36 hi hz0 hz1 hz2 rfl (by decide) _ _ _ rfl hown ⟨b, o, none⟩ xs.length cap (bs xs) rfl ?c0 ?c1 ?c2 ?c3 ?c4 ?c5 ?_) | go_in)
 case c0 => simp [bs]
 case c1 =>
  intro j u hj
  have := hla.at hj
  simpa [Addr.add_lit] using this
 case c2 =>
  intro v hv
  obtain ⟨x, _, rfl⟩ := List.mem_map.1 hv
  rfl
 case c3 => unfold maxLen; omega
 case c4 => omega
 case c5 => simp
 intro v' w' hown' hgrow _
 have hb : Below w.heap.size w w' := ((Below.refl _ _).alloc (Nat.le_refl _) _).grown hgrow (by simp) fun g hg => (hown.lt g hg).1
 clear hgrow hown hla
 obtain ⟨p, q, hv, hpq⟩ := own_slice hown'
 subst hv
 obtain ⟨p', q', hv', hlp, _⟩ := own_lies hown'
 cases hv'
 go_wp2
 go_ret
 exact ⟨p, q, rfl, hlp, hb, hpq, fun c o e => by subst e; exact (hown'.lt c rfl).1⟩

def NewRow (B : Nat) (w : World) (r : MRow) : Prop := RowIn w r ∧ (∀ b o, r.ha = some ⟨b, o, none⟩ → B ≤ b) ∧ (∀ b o, r.da = some ⟨b, o, none⟩ → B ≤ b) ∧ r.h.length ≤ r.hc

theorem NewRow.below {B : Nat} {w w' : World} {r : MRow} (h : NewRow B w r) (hb : Below w.heap.size w w') : NewRow B w' r := ⟨h.1.below hb, h.2⟩
theorem NewRow.mono {B B' : Nat} {w : World} {r : MRow} (h : NewRow B w r) (hB : B' ≤ B) : NewRow B' w r := ⟨h.1, fun b o e => Nat.le_trans hB (h.2.1 b o e), fun b o e => Nat.le_trans hB (h.2.2.1 b o e), h.2.2.2⟩

theorem alloc2 (w : World) (o0 o1 : Obj) : ((w.alloc o0).alloc o1).heap[w.heap.size]? = some o0 ∧ ((w.alloc o0).alloc o1).heap[w.heap.size + 1]? = some o1 := by
 simp only [heap_alloc_eq, size_alloc_eq]
 refine ⟨?_, ?_⟩
 ·rw [if_neg (by omega), if_pos (by first | omega | trivial)]
 ·rw [if_pos (by first | omega | trivial)]

theorem lies_off {w : World} {a : Option Addr} {xs : List Value} {g : Nat} (h : Lies w a xs) (hp : 0 < xs.length) (hg : w.heap.size ≤ g) : ∀ b o, a = some ⟨b, o, none⟩ → b ≠ g := by
 intro b o e
 subst e
 have := World.block_lt_of_cell? w _ (h.at (k := 0) (List.getElem?_eq_getElem hp))
 simp at this
 omega

set_option maxHeartbeats 1000000 in
theorem rowCopy_any (r : MRow) (n k : Nat) (w : World) (hr : RowIn w r) (hf : Fits n k r.says) (n1 : 1 ≤ n) (n2 : n ≤ 24) (k1 : 1 ≤ k) (k2 : k ≤ 16) :
  Calls Tryz.prog 207 #[.agg #[r.hv, r.dv]] w fun e w' => ∃ t : MRow, e = .returned (.agg #[t.hv, t.dv]) ∧ NewRow w.heap.size w' t ∧ t.says = r.says ∧ Below w.heap.size w w' := by
 obtain ⟨ha, hc, rh, da, dc, rd⟩ := r
 obtain ⟨h1, h2, _, _⟩ := hr
 obtain ⟨f1, f2⟩ := hf
 simp only [MRow.hv, MRow.dv, MRow.says] at *
 obtain ⟨hb0, ho0, rfl⟩ := h1.some (k := 0) (by simp; omega)
 obtain ⟨db0, do0, rfl⟩ := h2.some (k := 0) (by simp [bs]; omega)
 rw [f1, f2]
 have HF1 := Shut.mk f1
 have HF2 := Shut.mk f2
 obtain ⟨blk0, blk1⟩ := alloc2 w (.cells #[.slice (some ⟨hb0, ho0, none⟩) n hc, .slice (some ⟨db0, do0, none⟩) k dc] 237) (.cells #[.slice none 0 0, .slice none 0 0] 237)
 have hB : Below w.heap.size w ((w.alloc (.cells #[.slice (some ⟨hb0, ho0, none⟩) n hc, .slice (some ⟨db0, do0, none⟩) k dc] 237)).alloc (.cells #[.slice none 0 0, .slice none 0 0] 237)) := ((Below.refl _ _).alloc (Nat.le_refl _) _).alloc (by simp) _
 clear f1 f2
 go_enter Tryz.func207, Tryz.ntmps207
 go_upto_region 1 with fail
 obtain ⟨W0, hW0⟩ : ∃ W0, (w.alloc (.cells #[.slice (some ⟨hb0, ho0, none⟩) n hc, .slice (some ⟨db0, do0, none⟩) k dc] 237)).alloc (.cells #[.slice none 0 0, .slice none 0 0] 237) = W0 := ⟨_, rfl⟩
 have hsz : W0.heap.size = w.heap.size + 2 := by rw [← hW0]; simp
 rw [hW0] at blk0 blk1 hB ⊢
 clear hW0
 have x0 : W0.cell? ⟨w.heap.size, 0, none⟩ = some (.slice (some ⟨hb0, ho0, none⟩) n hc) := by simp [World.cell?, blk0]
 have x1 : W0.cell? ⟨w.heap.size, 1, none⟩ = some (.slice (some ⟨db0, do0, none⟩) k dc) := by simp [World.cell?, blk0]
 have y0 : W0.cell? ⟨w.heap.size + 1, 0, none⟩ = some (.slice none 0 0) := by simp [World.cell?, blk1]
 have y1 : W0.cell? ⟨w.heap.size + 1, 1, none⟩ = some (.slice none 0 0) := by simp [World.cell?, blk1]
 have yf : ∀ j, W0.frozen? ⟨w.heap.size + 1, j, none⟩ = false := fun j => by simp [World.frozen?, blk1]
 replace x0 : W0.drew.cell? _ = _ := x0
 replace x1 : W0.drew.cell? _ = _ := x1
 replace y0 : W0.drew.cell? _ = _ := y0
 replace y1 : W0.drew.cell? _ = _ := y1
 replace yf : ∀ j, W0.drew.frozen? _ = _ := yf
 have hB1 : Below w.heap.size w W0.drew := hB.drew
 have hsz1 : W0.drew.heap.size = w.heap.size + 2 := hsz
 have l1 := h1.below hB1 (Nat.le_refl _)
 have l2 := h2.below hB1 (Nat.le_refl _)
 have HY := Shut.mk (And.intro y0 (And.intro y1 yf))
 have HX := Shut.mk (And.intro x0 x1)
 have HZ := Shut.mk hsz1
 clear blk0 blk1 hB hsz y0 y1 yf h1 h2 hsz1
 go_region_held3 (fun w' => w'.cell? ⟨w.heap.size, 0, none⟩ = some (.slice (some ⟨hb0, ho0, none⟩) n hc) ∧ w'.cell? ⟨w.heap.size, 1, none⟩ = some (.slice (some ⟨db0, do0, none⟩) k dc)) (refine ⟨?_, ?_⟩ <;> first | assumption | (rw [World.cell?_setCell_other _ _ _ _ (by intro e; injection e; omega), World.cell?_setCell_other _ _ _ _ (by intro e; injection e; omega)]; assumption)) (first | (go_at_call 226; refine (cloneH_any hb0 ho0 hc n rh _ HF1.out n2 l1).mono ?_; rintro e w4 ⟨p4, q4, rfl, l4, hb4, hq4, hn4⟩; have v0 := cellC (w := W0.drew) HX.out.1 hb4; have v1 := cellC (w := W0.drew) HX.out.2 hb4) | (go_at_call 128; refine (cloneD_any db0 do0 dc k rd _ HF2.out k2 (l2.below hb4 (Nat.le_refl _))).mono ?_; rintro e w5 ⟨p5, q5, rfl, l5, hb5, hq5, hn5⟩; have v2 := cellC v0 hb5; have v3 := cellC v1 hb5; have b5 := hb4.trans (hb5.mono hb4.size); have s0 := cellC (w := W0.drew) HY.out.1 b5; have s1 := cellC (w := W0.drew) HY.out.2.1 b5; have s2 := ((bcell b5).2 (w.heap.size + 1) 0 (by rw [HZ.out]; omega)).trans (HY.out.2.2 0); have s3 := ((bcell b5).2 (w.heap.size + 1) 1 (by rw [HZ.out]; omega)).trans (HY.out.2.2 1)))
 all_goals
  have hz := hb4.size
  rw [HZ.out] at hz hn4
  have l6 := l4.below hb5 (Nat.le_refl _)
  obtain ⟨z0, z1⟩ := set2' s0 s1 (.slice p4 n q4) (.slice p5 k q5)
  have gr := grown_trans (grown_setCell w5 (w.heap.size + 1) 0 (.slice p4 n q4)) (grown_setCell _ (w.heap.size + 1) 1 (.slice p5 k q5))
  have l7 := lies_grown gr l6 fun b o e => by have := hn4 b o e; omega
  have l8 := lies_grown gr l5 fun b o e => by have := hn5 b o e; omega
  have hbF := ((hB1.trans (b5.mono (by rw [HZ.out]; omega))).setCell (p := ⟨w.heap.size + 1, 0, none⟩) (by simp) (.slice p4 n q4)).setCell (p := ⟨w.heap.size + 1, 1, none⟩) (by simp) (.slice p5 k q5)
  clear gr l6 l4 l5 hb4 hb5 b5 v0 v1 v2 v3 s0 s1 s2 s3
  generalize (w5.setCell ⟨w.heap.size + 1, 0, none⟩ (.slice p4 n q4)).setCell ⟨w.heap.size + 1, 1, none⟩ (.slice p5 k q5) = w9 at *
  go_wp2
  refine bodyPost_ret (v := .agg #[.slice p4 n q4, .slice p5 k q5]) (by simp [results, Tryz.results207, go_sem, z0, z1]) rfl ?_
  refine ⟨⟨p4, q4, rh, p5, q5, rd⟩, by simp only [HF1.out, HF2.out], ⟨⟨l7, l8, by simp only [HF1.out]; unfold maxLen; omega, by simp only [HF2.out]; unfold maxLen; omega⟩, fun b o e => by have := hn4 b o e; omega, fun b o e => by have := hn5 b o e; omega, by simp only [HF1.out]; exact hq4⟩, rfl, hbF⟩

theorem add_pair (w : World) (p : Option Addr) (cp : Nat) (a : Option Addr) (ca : Nat) (b : Option Addr) (cb : Nat) (x y : List UInt8) (k : Nat) (k1 : 1 ≤ k) (hk : k ≤ 16) (hx : x.length = k) (hy : y.length = k) (hp : Lies w p [.slice a k ca, .slice b k cb]) (ha : Lies w a (bs x)) (hb : Lies w b (bs y)) :
  Calls Tryz.prog 208 #[.slice p 2 cp] w fun e w' => ∃ (p' : Option Addr) (q : Nat), e = .returned (.tuple #[.slice p' k q, .int .i64 0]) ∧ Lies w' p' (bs (xorl x y)) ∧ Below w.heap.size w w' ∧ ∀ c o, p' = some ⟨c, o, none⟩ → w.heap.size ≤ c := by
 have hl : Lies w p ([⟨a, ca, x⟩, ⟨b, cb, y⟩].map Blk.val) := by
  have e : ([⟨a, ca, x⟩, ⟨b, cb, y⟩].map Blk.val) = [.slice a k ca, .slice b k cb] := by simp [Blk.val, hx, hy]
  rw [e]
  exact hp
 have hall : AllIn w [⟨a, ca, x⟩, ⟨b, cb, y⟩] := by
  intro z hz
  simp at hz
  rcases hz with rfl | rfl
  ·exact ⟨ha, by unfold maxLen; simp [hx]; omega⟩
  ·exact ⟨hb, by unfold maxLen; simp [hy]; omega⟩
 have hc : addCode [⟨a, ca, x⟩, ⟨b, cb, y⟩] = 0 := by
  simp [addCode, lens, chk, chkFrom, hx, hy]
  omega
 have hs : sumBl [⟨a, ca, x⟩, ⟨b, cb, y⟩] = xorl x y := by
  simp only [sumBl, sumOf, List.map_cons, List.map_nil, List.headD_cons, sumTo]
  congr 1
  apply List.ext_getElem
  ·rw [xorl_length _ _ (by simp [zeros])]; simp [zeros]
  ·intro t h1 h2
   simp [xorl, zeros]
 have hsl : (xorl x y).length = k := by rw [xorl_length _ _ (by rw [hx, hy]), hx]
 have h := add_good p cp [⟨a, ca, x⟩, ⟨b, cb, y⟩] w (by unfold maxLen; simp) hl hall hc
 rw [hs, hsl] at h
 refine h.mono ?_
 rintro e w' ⟨rfl, hrow, hb'⟩
 exact ⟨_, _, rfl, row_lies hrow hsl, hb', fun b o e => by cases e; exact Nat.le_refl _⟩

theorem alloc3' (w : World) (o0 o1 o2 : Obj) : (((w.alloc o0).alloc o1).alloc o2).heap[w.heap.size]? = some o0 ∧ (((w.alloc o0).alloc o1).alloc o2).heap[w.heap.size + 1]? = some o1 ∧ (((w.alloc o0).alloc o1).alloc o2).heap[w.heap.size + 2]? = some o2 := by
 simp only [heap_alloc_eq, size_alloc_eq]
 refine ⟨?_, ?_, ?_⟩
 ·rw [if_neg (by omega), if_neg (by omega), if_pos (by first | omega | trivial)]
 ·rw [if_neg (by omega), if_pos (by first | omega | trivial)]
 ·rw [if_pos (by first | omega | trivial)]

def hasAt (x y : List Bool) (q : Nat) (j : Nat) : Value := .bool (if j < q then (xorH x y).getD j false else false)

theorem hasAt_next {x y : List Bool} {q : Nat} (hq : q < x.length) (hy : y.length = x.length) (j : Nat) : hasAt x y (q + 1) j = if j = q then .bool (x[q] != y[q]'(by omega)) else hasAt x y q j := by
 by_cases e : j = q
 ·subst e
  rw [if_pos rfl, hasAt, if_pos (by omega)]
  congr 1
  rw [List.getD_eq_getElem?_getD, List.getElem?_eq_getElem (by rw [xorH_length hy]; exact hq)]
  simp [xorH]
 ·rw [if_neg e]
  unfold hasAt
  by_cases h : j < q
  ·rw [if_pos h, if_pos (by omega)]
  ·rw [if_neg h, if_neg (by omega)]

def PlusInv (W0 wr : World) (g n : Nat) (x y : List Bool) (q : Nat) : Prop := Below W0.heap.size W0 wr ∧ g = W0.heap.size ∧ g < wr.heap.size ∧ wr.rowIs g 4 n (hasAt x y q)

theorem PlusInv.next {W0 wr : World} {g n q : Nat} {x y : List Bool} (h : PlusInv W0 wr g n x y q) (hq : q < x.length) (hy : y.length = x.length) : PlusInv W0 (wr.setCell ⟨g, q, none⟩ (.bool (x[q] != y[q]'(by omega)))).drew g n x y (q + 1) := by
 obtain ⟨h1, h2, h3, h4⟩ := h
 refine ⟨(h1.setCell (p := ⟨g, q, none⟩) (by simp; omega) _).drew, h2, by simpa using h3, World.rowIs.drew ?_⟩
 refine (h4.set q _).congr fun j hj => ?_
 rw [hasAt_next hq hy]

set_option maxHeartbeats 2000000 in
theorem plus_any (r s : MRow) (n k : Nat) (w : World) (hr : RowIn w r) (hs : RowIn w s) (hf : Fits n k r.says) (hg : Fits n k s.says) (n1 : 1 ≤ n) (n2 : n ≤ 24) (k1 : 1 ≤ k) (k2 : k ≤ 16) :
  Calls Tryz.prog 189 #[.agg #[r.hv, r.dv], .agg #[s.hv, s.dv]] w fun e w' => ∃ t : MRow, e = .returned (.agg #[t.hv, t.dv]) ∧ NewRow w.heap.size w' t ∧ t.says = LRow.add r.says s.says ∧ Below w.heap.size w w' := by
 obtain ⟨ha, hc, rh, da, dc, rd⟩ := r
 obtain ⟨ha', hc', sh, da', dc', sd⟩ := s
 obtain ⟨f1, f2⟩ := hf
 obtain ⟨f3, f4⟩ := hg
 simp only [MRow.hv, MRow.dv, MRow.says] at *
 rw [f1, f2, f3, f4]
 obtain ⟨blk0, blk1, blk2⟩ := alloc3' w (.cells #[.slice ha n hc, .slice da k dc] 237) (.cells #[.slice ha' n hc', .slice da' k dc'] 237) (.cells #[.slice none 0 0, .slice none 0 0] 237)
 obtain ⟨W0, hW0⟩ : ∃ W0, ((w.alloc (.cells #[.slice ha n hc, .slice da k dc] 237)).alloc (.cells #[.slice ha' n hc', .slice da' k dc'] 237)).alloc (.cells #[.slice none 0 0, .slice none 0 0] 237) = W0 := ⟨_, rfl⟩
 have hB : Below w.heap.size w W0 := by
  rw [← hW0]
  exact (((Below.refl _ _).alloc (Nat.le_refl _) _).alloc (by simp) _).alloc (by simp; omega) _
 have hsz : W0.heap.size = w.heap.size + 3 := by rw [← hW0]; simp
 rw [hW0] at blk0 blk1 blk2
 have a0 : W0.cell? ⟨w.heap.size, 0, none⟩ = some (.slice ha n hc) := by simp [World.cell?, blk0]
 have a1 : W0.cell? ⟨w.heap.size, 1, none⟩ = some (.slice da k dc) := by simp [World.cell?, blk0]
 have b0 : W0.cell? ⟨w.heap.size + 1, 0, none⟩ = some (.slice ha' n hc') := by simp [World.cell?, blk1]
 have b1 : W0.cell? ⟨w.heap.size + 1, 1, none⟩ = some (.slice da' k dc') := by simp [World.cell?, blk1]
 have r0 : W0.cell? ⟨w.heap.size + 2, 0, none⟩ = some (.slice none 0 0) := by simp [World.cell?, blk2]
 have r1 : W0.cell? ⟨w.heap.size + 2, 1, none⟩ = some (.slice none 0 0) := by simp [World.cell?, blk2]
 have rf : ∀ j, W0.frozen? ⟨w.heap.size + 2, j, none⟩ = false := fun j => by simp [World.frozen?, blk2]
 have hla := hr.1.below hB (Nat.le_refl _)
 have hlb := hs.1.below hB (Nat.le_refl _)
 have hda := hr.2.1.below hB (Nat.le_refl _)
 have hdb := hs.2.1.below hB (Nat.le_refl _)
 simp only at hla hlb hda hdb
 have hmk := run_make_row' (P := Tryz.prog) 231 4 (.bool false) 1 Tryz.underlying231 infoBool rfl .i64 .i64 n (by omega) (by omega)
 have H0 : Shut (PlusInv W0 (W0.alloc (.cells (madeCells #[Value.bool false] n) 4)) W0.heap.size n rh sh 0) := ⟨(Below.refl _ _).alloc (Nat.le_refl _) _, rfl, by simp, (World.rowIs_made W0 _ n _).congr fun j hj => by simp [hasAt]⟩
 have HF1 := Shut.mk f1
 have HF2 := Shut.mk f2
 have HF3 := Shut.mk f3
 have HF4 := Shut.mk f4
 have HSZ := Shut.mk hsz
 have HW := Shut.mk hW0
 have HX := Shut.mk (And.intro a0 (And.intro a1 (And.intro b0 (And.intro b1 (And.intro r0 (And.intro r1 rf))))))
 rw [← hW0] at a0
 clear blk0 blk1 blk2 a1 b0 b1 r0 r1 rf f1 f2 f3 f4 hsz hW0 hr hs
 go_enter Tryz.func189, Tryz.ntmps189
 go_wp2
 rw [HW.out]
 clear a0 hmk
 obtain ⟨g3, e3⟩ : ∃ g3, W0.heap.size = g3 := ⟨_, rfl⟩
 rw [HSZ.out] at e3
 have HG3 := Shut.mk e3
 rw [HSZ.out] at H0
 simp only [e3] at H0
 simp only [e3]
 clear e3
 generalize W0.alloc (.cells (madeCells #[Value.bool false] n) 4) = W1 at *
 go_loopw [15] (fun m wr => ∃ q : Nat, q ≤ n ∧ m = .int .i64 q ∧ Shut (PlusInv W0 wr g3 n rh sh q)) (fun m _ => n - (intOf m).toNat)
 case atStart => exact ⟨0, Nat.zero_le _, rfl, H0⟩
 case round =>
  clear H0
  obtain ⟨q, hq, rfl, HI⟩ := hrel
  obtain ⟨i1, i2, i3, i4⟩ := HI.out
  by_cases hlt : q < n
  ·have hq1 : q < rh.length := by rw [HF1.out]; exact hlt
   have hq2 : q < sh.length := by rw [HF3.out]; exact hlt
   obtain ⟨ab, ao, rfl⟩ := hla.some (k := q) (by simpa using hq1)
   obtain ⟨bb, bo, rfl⟩ := hlb.some (k := q) (by simpa using hq2)
   have c1 : wr.cell? ⟨ab, ao + q, none⟩ = some (.bool rh[q]) := (hla.below i1 (Nat.le_refl _)).at (by simp [hq1])
   have c2 : wr.cell? ⟨bb, bo + q, none⟩ = some (.bool sh[q]) := (hlb.below i1 (Nat.le_refl _)).at (by simp [hq2])
   have c3 := cellC HX.out.1 i1
   have c4 := cellC HX.out.2.2.1 i1
   have c5 := i4.cell hlt
   have c6 := i4.frozen q
   have d1 : ¬ g3 = ab := by have := World.block_lt_of_cell? W0 _ (hla.at (k := q) (u := .bool rh[q]) (by simp [hq1])); simp at this; omega
   have d2 : ¬ g3 = bb := by have := World.block_lt_of_cell? W0 _ (hlb.at (k := q) (u := .bool sh[q]) (by simp [hq2])); simp at this; omega
   have d3 : ¬ g3 = w.heap.size := by have := HG3.out; omega
   have d4 : ¬ g3 = w.heap.size + 1 := by have := HG3.out; omega
   have R1 := Shut.mk (HI.out.next hq1 (by rw [HF1.out, HF3.out]))
   generalize rh[q]'hq1 = X at *
   generalize sh[q]'hq2 = Y at *
   clear i1 i2 i3 i4 hla hlb HI hq1 hq2
   go_wp2
   go_region
   all_goals
    clear c1 c2 c3 c4 c5 c6
    go_wp2
    go_roundw
    case rel => exact ⟨q + 1, by omega, by go_num, R1⟩
    case measure => simp [intOf]; omega
  ·obtain rfl : q = n := by omega
   have hxl : (xorH rh sh).length = q := by rw [xorH_length (by rw [HF1.out, HF3.out]), HF1.out]
   have hlv : Lies wr (some ⟨g3, 0, none⟩) ((xorH rh sh).map Value.bool) := row_lies' i4 _ (by simp [hxl]) fun i hi => by
    have hi' : i < q := by simpa [hxl] using hi
    unfold hasAt
    rw [if_pos hi', List.getElem_map, List.getD_eq_getElem?_getD, List.getElem?_eq_getElem (by omega)]
    rfl
   have HXL := Shut.mk hxl
   have x1 := cellC HX.out.2.1 i1
   have x2 := cellC HX.out.2.2.2.1 i1
   have x3 := cellC HX.out.2.2.2.2.1 i1
   have x4 := cellC HX.out.2.2.2.2.2.1 i1
   have xf : ∀ j, wr.frozen? ⟨w.heap.size + 2, j, none⟩ = false := fun j => by rw [(bcell i1).2 (w.heap.size + 2) j (by rw [HSZ.out]; omega)]; exact HX.out.2.2.2.2.2.2 j
   have bw : Below w.heap.size w wr := hB.trans (i1.mono hB.size)
   have hlp : Lies (wr.alloc (.cells #[.slice da k dc, .slice da' k dc'] 36)) (some ⟨wr.heap.size, 0, none⟩) [.slice da k dc, .slice da' k dc'] := Lies.alloc_new wr #[.slice da k dc, .slice da' k dc'] 36
   have hS := add_pair _ _ 2 da dc da' dc' rd sd k k1 k2 HF2.out HF4.out hlp ((hda.below i1 (Nat.le_refl _)).alloc _) ((hdb.below i1 (Nat.le_refl _)).alloc _)
   have bd : Below wr.heap.size wr (wr.alloc (.cells #[.slice da k dc, .slice da' k dc'] 36)) := (Below.refl _ _).alloc (Nat.le_refl _) _
   have i3' := i3
   have hg3 : w.heap.size + 2 < wr.heap.size := by have := HG3.out; omega
   clear i1 i2 i4 hla hlb hda hdb hlp hxl HI
   go_wp2_with fail
   refine hS.mono ?_
   rintro e w4 ⟨p4, q4, rfl, hl4, hb4, hn4⟩
   have b4 := bd.trans (hb4.mono bd.size)
   have z0 := cellC x3 b4
   have z1 := cellC x4 b4
   have zf0 := ((bcell b4).2 (w.heap.size + 2) 0 hg3).trans (xf 0)
   have zf1 := ((bcell b4).2 (w.heap.size + 2) 1 hg3).trans (xf 1)
   have bw4 := bw.trans (b4.mono bw.size)
   have hlv4 := hlv.below b4 (Nat.le_refl _)
   have hs4 := b4.size
   have hs5 := bd.size
   clear hS bd hb4 x1 x2 x3 x4 xf hlv b4
   go_wp2
   obtain ⟨u0, u1⟩ := set2' z0 z1 (.slice (some ⟨g3, 0, none⟩) q q) (.slice p4 k q4)
   have gr := grown_trans (grown_setCell w4 (w.heap.size + 2) 0 (.slice (some ⟨g3, 0, none⟩) q q)) (grown_setCell _ (w.heap.size + 2) 1 (.slice p4 k q4))
   have L1 := lies_grown gr hlv4 fun b o e => by cases e; have := HG3.out; omega
   have L2 := lies_grown gr hl4 fun b o e => by have := hn4 b o e; omega
   have hbF := (bw4.setCell (p := ⟨w.heap.size + 2, 0, none⟩) (by simp) (.slice (some ⟨g3, 0, none⟩) q q)).setCell (p := ⟨w.heap.size + 2, 1, none⟩) (by simp) (.slice p4 k q4)
   generalize (w4.setCell ⟨w.heap.size + 2, 0, none⟩ (.slice (some ⟨g3, 0, none⟩) q q)).setCell ⟨w.heap.size + 2, 1, none⟩ (.slice p4 k q4) = w9 at *
   refine bodyPost_ret (v := .agg #[.slice (some ⟨g3, 0, none⟩) q q, .slice p4 k q4]) (by simp [results, Tryz.results189, go_sem, u0, u1]) rfl ?_
   have l2 : (xorl rd sd).length = k := by rw [xorl_length _ _ (by rw [HF2.out, HF4.out]), HF2.out]
   refine ⟨⟨some ⟨g3, 0, none⟩, q, xorH rh sh, p4, q4, xorl rd sd⟩, ?_, ⟨⟨L1, L2, ?_, ?_⟩, ?_, ?_, ?_⟩, rfl, hbF⟩
   ·simp only [HXL.out, l2]
   ·simp only [HXL.out]; unfold maxLen; omega
   ·simp only [l2]; unfold maxLen; omega
   ·intro b o e; cases e; have := HG3.out; omega
   ·intro b o e; have := hn4 b o e; omega
   ·simp only [HXL.out]; exact Nat.le_refl _

end Go.Proofs.YtakkajjoeimkdaaGreatDoor
