import Derived.Test.YthhhlampphlmgaaPart1
import Derived.Test.YthhhlampphlmgaaPart6
import Derived.Test.YthhhlampphlmgaaRows
import Derived.Test.YthhhlampphlmgaaPart3
import Derived.Deep.OwnRows
import Derived.OwnWalk
import Derived.Lib.SliceRun
import Derived.Laws.IdiomCopy
import Derived.Deep.CutBlock
import Derived.Test.YthhhlampphlmgaaPart5
/-
  A mail and a list of mails that came in, opened.
-/
namespace Go.Proofs.Ythhhlampphlmgaa
open Go.ChangeShapes Go.WideShapes Go.ChangeAt Go.RowKit
set_option linter.unusedVariables false
set_option linter.unusedSimpArgs false

theorem arrayM {α : Type} {cs : Array α} (h : cs.size = 13) : ∃ c0 c1 c2 c3 c4 c5 c6 c7 c8 c9 c10 c11 c12, cs = #[c0, c1, c2, c3, c4, c5, c6, c7, c8, c9, c10, c11, c12] := by
  obtain ⟨l⟩ := cs
  match l, h with
  | [c0, c1, c2, c3, c4, c5, c6, c7, c8, c9, c10, c11, c12], _ => exact ⟨c0, c1, c2, c3, c4, c5, c6, c7, c8, c9, c10, c11, c12, rfl⟩

theorem mInt1 : Try.prog.cellsOf 3 = 1 := by kernel_rfl
theorem mBlk1 : Try.prog.cellsOf 28 = 1 := by kernel_rfl
theorem mU81 : Try.prog.cellsOf 5 = 1 := by kernel_rfl
theorem mPlan2 : Try.prog.cellsOf 24 = 2 := by kernel_rfl
theorem mSym2 : Try.prog.cellsOf 30 = 2 := by kernel_rfl
theorem mHead6 : Try.prog.cellsOf 26 = 6 := by kernel_rfl
theorem mFrame11 : Try.prog.cellsOf 32 = 11 := by kernel_rfl
theorem mMail13 : Try.prog.cellsOf 34 = 13 := by kernel_rfl

section
variable {H : Type} {enc : TypeId × Value → H} {w : World} {held : Bool}

theorem mone_int {n : Nat} {c : Value} {y : DataW H × List MemPlace} (h : DataW.trod enc Try.prog w 0 (fun _ => true) held n 3 [c] = some y) : ∃ a : Int, c = .int .i64 a ∧ I64 a := by
  obtain ⟨a, e, _, wa⟩ := DataW.trod_int Try.underlying3 h
  simp at e
  exact ⟨a, e, i64_of_wf wa⟩

set_option maxRecDepth 8000 in
theorem trod_ml {fuel : Nat} {c0 c1 c2 c3 c4 c5 c6 c7 c8 c9 c10 c11 c12 : Value} {y : DataW H × List MemPlace} (hf : DataW.trod enc Try.prog w 0 (fun _ => true) held fuel 34 [c0, c1, c2, c3, c4, c5, c6, c7, c8, c9, c10, c11, c12] = some y) :
    ∃ m : MMl, [c0, c1, c2, c3, c4, c5, c6, c7, c8, c9, c10, c11, c12] = m.cells ∧ MailIn w m ∧ MlOk m := by
  obtain ⟨xs, n, _, _, _, hlen, hg⟩ := DataW.trod_struct Try.underlying34 hf
  match xs, hlen with
  | [y0, y1, y2], _ =>
    have g0 := hg 0 _ rfl
    have g1 := hg 1 _ rfl
    have g2 := hg 2 _ rfl
    simp [mInt1, mFrame11] at g0 g1 g2
    obtain ⟨f, rfl, jf⟩ := mone_int g0
    obtain ⟨t, rfl, jt⟩ := mone_int g1
    obtain ⟨fs, n3, _, _, _, hl3, hg3⟩ := DataW.trod_struct Try.underlying32 g2
    match fs, hl3 with
    | [x0, x1, x2, x3, x4], _ =>
      have b0 := hg3 0 _ rfl
      have b1 := hg3 1 _ rfl
      have b2 := hg3 2 _ rfl
      have b3 := hg3 3 _ rfl
      have b4 := hg3 4 _ rfl
      simp [mInt1, mHead6, mSym2] at b0 b1 b2 b3 b4
      obtain ⟨k, rfl, jk⟩ := mone_int b0
      obtain ⟨nn, rfl, jn⟩ := mone_int b3
      obtain ⟨ty, rfl, jy⟩ := mone_int b4
      obtain ⟨hs, n4, _, _, _, hl4, hg4⟩ := DataW.trod_struct Try.underlying26 b1
      match hs, hl4 with
      | [z0, z1, z2, z3, z4], _ =>
        have e0 := hg4 0 _ rfl
        have e1 := hg4 1 _ rfl
        have e2 := hg4 2 _ rfl
        have e3 := hg4 3 _ rfl
        have e4 := hg4 4 _ rfl
        simp [mInt1, mPlan2] at e0 e1 e2 e3 e4
        obtain ⟨F, rfl, iF⟩ := mone_int e0
        obtain ⟨Q, rfl, iQ⟩ := mone_int e1
        obtain ⟨T, rfl, iT⟩ := mone_int e2
        obtain ⟨L, rfl, iL⟩ := mone_int e3
        obtain ⟨ps, n5, _, _, _, hl5, hg5⟩ := DataW.trod_struct Try.underlying24 e4
        match ps, hl5 with
        | [u0, u1], _ =>
          have a0 := hg5 0 _ rfl
          have a1 := hg5 1 _ rfl
          simp [mInt1] at a0 a1
          obtain ⟨B, rfl, iB⟩ := mone_int a0
          obtain ⟨K, rfl, iK⟩ := mone_int a1
          obtain ⟨ss, n6, _, _, _, hl6, hg6⟩ := DataW.trod_struct Try.underlying30 b2
          match ss, hl6 with
          | [s0, s1], _ =>
            have d0 := hg6 0 _ rfl
            have d1 := hg6 1 _ rfl
            simp [mInt1, mBlk1] at d0 d1
            obtain ⟨id, rfl, iid⟩ := mone_int d0
            obtain ⟨da, dc, dl, rfl, h1, h2, _, _⟩ := open_bytes2 Try.underlying28 Try.underlying5 mU81 d1
            exact ⟨⟨⟨f, t, k, ⟨F, Q, T, L, B, K⟩, id, dl, nn, ty⟩, da, dc⟩, rfl, h1, ⟨jf, jt, jk, ⟨iF, iQ, iT, iL, iB, iK⟩, iid, jn, jy⟩, h2⟩

theorem open_ml {r : Reach} {b0 : Nat} {v : Value} {d : DataW H} {p : List MemPlace} (hv : Value.okWide Try.prog w r b0 34 v) (h : DataW.Trod enc Try.prog w 0 (fun _ => true) held 34 v d p) :
    ∃ m : MMl, v = m.val ∧ MailIn w m ∧ MlOk m := by
  obtain ⟨cs, rfl, hsz⟩ := okWide_struct Try.underlying34 hv
  obtain ⟨c0, c1, c2, c3, c4, c5, c6, c7, c8, c9, c10, c11, c12, rfl⟩ := arrayM (hsz.trans mMail13)
  obtain ⟨fuel, hf⟩ := h
  obtain ⟨m, e, h1, h2⟩ := trod_ml hf
  refine ⟨m, ?_, h1, h2⟩
  show Value.agg (List.toArray _) = Value.agg (List.toArray m.cells)
  rw [e]

theorem cellsM {base : Nat} {a : Addr} {cs : List Value} (h : w.cells? base a 13 = some cs) : ∃ c0 c1 c2 c3 c4 c5 c6 c7 c8 c9 c10 c11 c12, cs = [c0, c1, c2, c3, c4, c5, c6, c7, c8, c9, c10, c11, c12] ∧ ∀ j v, cs[j]? = some v → w.cell? (a.add j) = some v := by
  obtain ⟨_, hlen, hc⟩ := World.cells?_some h
  have hc' : ∀ j v, cs[j]? = some v → w.cell? (a.add j) = some v := by
    intro j v hj
    have hlt := (List.getElem?_eq_some_iff.1 hj).1
    rw [hc j (by omega)]
    exact hj
  match cs, hlen, hc' with
  | [c0, c1, c2, c3, c4, c5, c6, c7, c8, c9, c10, c11, c12], _, hc' => exact ⟨c0, c1, c2, c3, c4, c5, c6, c7, c8, c9, c10, c11, c12, rfl, hc'⟩

theorem open_mls {fuel : Nat} {v : Value} {x : DataW H × List MemPlace} (h : DataW.trod enc Try.prog w 0 (fun _ => true) held fuel 22 [v] = some x) :
    ∃ (a : Option Addr) (cap : Nat) (l : List MMl), v = .slice a l.length cap ∧ Lies w a (mailCells l) ∧ (∀ y ∈ l, MailIn w y ∧ MlOk y) ∧ l.length ≤ maxLen ∧ l.length ≤ cap := by
  rcases Go.Deep.open_slice Try.underlying22 h with ⟨hcs, hx⟩ | ⟨a, len, cap, m, n, D, Pl, hcs, _, hl, hm, hmm, hx, hcell⟩
  · simp at hcs
    subst hcs
    exact ⟨none, 0, [], rfl, Lies.nil _ _, (fun r hr => by cases hr), by simp, by simp⟩
  · simp at hcs hmm
    subst hcs hmm
    rw [mMail13] at hcell
    have hb' : ∀ i, i < m → ∃ y : MMl, (∀ j u, y.cells[j]? = some u → w.cell? ((a.add (i * 13)).add j) = some u) ∧ MailIn w y ∧ MlOk y := fun i hi => by
      obtain ⟨cs', e1, e2⟩ := hcell i hi
      obtain ⟨c0, c1, c2, c3, c4, c5, c6, c7, c8, c9, c10, c11, c12, rfl, hc⟩ := cellsM e1
      obtain ⟨y, ey, h1, h2⟩ := trod_ml e2
      refine ⟨y, ?_, h1, h2⟩
      rw [← ey]
      exact hc
    have : Inhabited MMl := ⟨⟨ml0, none, 0⟩⟩
    obtain ⟨B, hB⟩ := Go.Deep.choose_lt hb'
    refine ⟨some a, m, (List.range len).map B, by simp, ?_, ?_, by simp; omega, by simp; omega⟩
    · intro k u hu
      have hk : k < 13 * len := by
        obtain ⟨hk, _⟩ := List.getElem?_eq_some_iff.1 hu
        rw [mailCells_length] at hk
        simpa using hk
      have hkl : k / 13 < len := by omega
      have hrow : ((List.range len).map B)[k / 13]? = some (B (k / 13)) := by simp [hkl]
      obtain ⟨c, hc⟩ : ∃ c, (B (k / 13)).cells[k % 13]? = some c := ⟨_, List.getElem?_eq_getElem (by show k % 13 < 13; omega)⟩
      have h1 := mailCells_at _ (k / 13) (k % 13) _ c hrow hc
      rw [show 13 * (k / 13) + k % 13 = k by omega, hu] at h1
      obtain rfl := Option.some.inj h1
      have h2 := (hB (k / 13) (by omega)).1 _ _ hc
      have h0 := (hB 0 (by omega)).1 0 _ rfl
      rw [Go.Deep.add_add] at h2 h0
      rw [show k / 13 * 13 + k % 13 = k by omega] at h2
      exact lies_addr (by simpa using h0) h2
    · intro r hr
      obtain ⟨i, hi, rfl⟩ := List.mem_map.1 hr
      exact (hB i (by simp at hi; omega)).2
end
end Go.Proofs.Ythhhlampphlmgaa

/-
  slices.Clone at a block.
-/
namespace Go.Proofs.Ythhhlampphlmgaa
open Go.RowKit
set_option linter.unusedVariables false
set_option linter.unusedSimpArgs false

theorem info_cloneK : (Try.prog.info? 5).map (fun i => (i.zero, i.size, i.bytes)) = some (some (.int .u8 0), 1, 1) := by kernel_rfl

set_option maxHeartbeats 1000000 in
set_option maxRecDepth 8000 in
theorem cloneK (p : Option Addr) (n cp : Nat) (xs : List Value) (w : World) (hx : xs.length = n * 1) (hone : ∀ v ∈ xs, v.oneCell' = true) (hn : n ≤ 65536) (hl : Lies w p xs) :
    Calls Try.prog 35 #[.slice p n cp] w fun e w' => ∃ (q : Option Addr) (c : Nat), e = .returned (.slice q n c) ∧ Shut (w'.ownsRow w.heap.size 5 1 (.slice q n c) n xs ∧ n ≤ c ∧ Lies w' q xs ∧ Below w.heap.size w w') := by
  obtain ⟨i0, hi, hz0, hz1, hz2⟩ := info_parts info_cloneK
  have hnb : n * 1 ≤ 2000000 := by omega
  cases p with
  | none =>
    have h0 : n = 0 := by
      rcases Nat.eq_zero_or_pos n with h | h
      · exact h
      · obtain ⟨_, _, e, _⟩ := hl 0 (xs[0]'(by omega)) (List.getElem?_eq_getElem (by omega))
        cases e
    subst h0
    have hx0 : xs = [] := List.eq_nil_of_length_eq_zero (by omega)
    subst hx0
    have hne : ∀ W : World, (binOp .eql 28 (.slice none 0 cp) (.slice none 0 0)).run Try.prog W = .ok (.bool true) W := fun W => Lib.run_eql_slice_nil W 28 5 none 0 cp 0 0 Try.underlying28
    go_enter Try.func35, Try.ntmps35
    go_wp2
    go_ret
    exact ⟨none, 0, rfl, ⟨World.ownsRow_nil _ _ _ _, Nat.le_refl _, Lies.nil _ _, Below.refl _ _⟩⟩
  | some ad =>
    have hne : ∀ W : World, (binOp .eql 28 (.slice (some ad) n cp) (.slice none 0 0)).run Try.prog W = .ok (.bool false) W := fun W => Lib.run_eql_slice_nil W 28 5 (some ad) n cp 0 0 Try.underlying28
    have hown : (w.alloc (.cells #[] 5)).ownsRow w.heap.size 5 1 (.slice (some ⟨w.heap.size, 0, none⟩) 0 0) 0 [] :=
      ⟨rfl, .inr ⟨w.heap.size, 0, #[], rfl, Nat.le_refl _, by rw [heap_alloc_eq, if_pos rfl], Nat.le_refl _, by unfold maxLen; omega, rfl, rfl⟩⟩
    have hla := hl.alloc (.cells #[] 5)
    have HX := Shut.mk (And.intro hx hone)
    clear hl hx hone
    go_enter Try.func35, Try.ntmps35
    go_wp2_with (first | (at_builtin; refine wpList_append_own _ rfl _ _ 28 rfl w.heap.size 5 i0 (.int .u8 0) 1 1 Try.underlying28 hi hz0 hz1 hz2 rfl (by decide) _ _ _ rfl hown ad n cp xs rfl ?c0 ?c1 ?c2 ?c3 ?c4 ?c5 ?_) | fail)
    case c0 => exact HX.out.1
    case c1 => exact lies_gen hla
    case c2 => exact HX.out.2
    case c3 => unfold maxLen; omega
    case c4 => omega
    case c5 => simp
    intro v' w' hown' hgrow _
    have hb : Below w.heap.size w w' := ((Below.refl _ _).alloc (Nat.le_refl _) _).grown hgrow (by simp) fun g hg => (hown.lt g hg).1
    obtain ⟨q, c, rfl, h1, h2⟩ := own_gen hown'
    have R : Shut (w'.ownsRow w.heap.size 5 1 (.slice q n c) n xs ∧ n ≤ c ∧ Lies w' q xs ∧ Below w.heap.size w w') := ⟨hown', h2, h1, hb⟩
    clear hgrow hown hla hown' hb h1 h2
    go_wp2
    go_ret
    exact ⟨q, c, rfl, R⟩

end Go.Proofs.Ythhhlampphlmgaa

/-
  Of no program: some cells in a row of a block, written one by one; an element of a row that is written whole.
-/
namespace Go.Proofs.Ythhhlampphlmgaa
open Go.RowKit
set_option linter.unusedVariables false
set_option linter.unusedSimpArgs false

/-- cells written one behind the other -/
abbrev setRun (W : World) (g o : Nat) (vs : List Value) : World := W.setCells g o vs

theorem setRun_far {g k : Nat} (hk : k ≠ g) : ∀ (vs : List Value) (W : World) (o : Nat), (setRun W g o vs).heap[k]? = W.heap[k]?
  | [], W, o => rfl
  | v :: r, W, o => by
    exact (setRun_far hk r _ _).trans (setCell_far _ _ hk)

theorem setRun_below {g B : Nat} {w : World} (hB : B ≤ g) : ∀ (vs : List Value) (W : World) (o : Nat), Below B w W → Below B w (setRun W g o vs)
  | [], W, o, h => h
  | v :: r, W, o, h => by
    exact setRun_below hB r _ _ (h.setCell (p := ⟨g, o, none⟩) hB _)

theorem setRun_blk {g : Nat} {T : TypeId} {f : Nat × Nat} : ∀ (vs : List Value) (W : World) (o : Nat) (c : Array Value), W.heap[g]? = some (.cells c T f) → o + vs.length ≤ c.size →
    ∃ c' : Array Value, (setRun W g o vs).heap[g]? = some (.cells c' T f) ∧ c'.toList = c.toList.take o ++ vs ++ c.toList.drop (o + vs.length) ∧ c'.size = c.size
  | [], W, o, c, h, hl => ⟨c, h, by simp, rfl⟩
  | v :: r, W, o, c, h, hl => by
    have hl' : o + 1 + r.length ≤ c.size := by simpa [Nat.add_assoc, Nat.add_comm 1] using hl
    obtain ⟨c', h1, h2, h3⟩ := setRun_blk r _ (o + 1) _ (setCell_blk h o v) (by simpa using hl')
    refine ⟨c', h1, ?_, by simpa using h3⟩
    rw [h2]
    have e1 : (c.setIfInBounds o v).toList = c.toList.set o v := by simp
    rw [e1]
    have ho : o < c.toList.length := by simp; omega
    rw [List.set_eq_take_append_cons_drop, if_pos ho]
    have lt : (c.toList.take o).length = o := by rw [List.length_take]; omega
    rw [List.take_append, List.drop_append, lt]
    have e2 : o + 1 - o = 1 := by omega
    have e3 : o + 1 + r.length - o = r.length + 1 := by omega
    rw [e2, e3, List.take_succ_cons, List.take_zero, List.drop_succ_cons, List.drop_drop, List.take_of_length_le (by rw [lt]; omega), List.drop_eq_nil_of_le (by rw [lt]; omega)]
    simp [Nat.add_assoc, Nat.add_comm 1]

theorem own_setRun {w : World} {B n es g cap : Nat} {e : TypeId} {xs : List Value} (h : w.ownsRow B e es (.slice (some ⟨g, 0, none⟩) n cap) n xs) (vs : List Value) (o : Nat) (hn : o + vs.length ≤ n * es) :
    (setRun w g o vs).ownsRow B e es (.slice (some ⟨g, 0, none⟩) n cap) n (xs.take o ++ vs ++ xs.drop (o + vs.length)) := by
  have hx := h.1
  rcases h.2 with ⟨h0, _⟩ | ⟨g', cap', cur, h0, hg, hc, h1, h2, h3, htake⟩
  · cases h0
  · simp only [Value.slice.injEq, Option.some.injEq, Addr.mk.injEq] at h0
    obtain ⟨⟨rfl, _⟩, _, rfl⟩ := h0
    have hcap : n * es ≤ cap * es := Nat.mul_le_mul_right _ h1
    obtain ⟨c', e1, e2, e3⟩ := setRun_blk vs w o cur hc (by omega)
    refine ⟨?_, .inr ⟨g, cap, c', rfl, hg, e1, h1, h2, by omega, ?_⟩⟩
    · simp only [List.length_append, List.length_take, List.length_drop]
      omega
    · rw [e2, ← htake]
      have l1 : (cur.toList.take o).length = o := by rw [List.length_take]; simp; omega
      have e4 : min (n * es) o = o := by omega
      have e6 : min o (n * es) = o := by omega
      have e5 : o + vs.length + (n * es - o - vs.length) = n * es := by omega
      rw [List.append_assoc, List.take_append, l1, List.take_append, List.take_take, e4, List.take_of_length_le (l := vs) (by omega), List.take_take, e6, List.append_assoc, List.take_drop, e5]

/-- an element of a list of elements of one size each, in another's place -/
theorem flat_set {α : Type} (f : α → List Value) (k : Nat) (hk : ∀ y, (f y).length = k) : ∀ (L : List α) (q : Nat) (x : α), q < L.length → (L.set q x).flatMap f = (L.flatMap f).take (k * q) ++ f x ++ (L.flatMap f).drop (k * q + (f x).length)
  | [], q, x, h => by simp at h
  | z :: L, 0, x, h => by
    rw [List.set_cons_zero, List.flatMap_cons, List.flatMap_cons, Nat.mul_zero, List.take_zero, List.nil_append, Nat.zero_add, hk x, List.drop_append, hk z, Nat.sub_self, List.drop_zero, List.drop_eq_nil_of_le (by rw [hk z]; omega), List.nil_append]
  | z :: L, q + 1, x, h => by
    have ih := flat_set f k hk L q x (by simpa using h)
    rw [List.set_cons_succ, List.flatMap_cons, List.flatMap_cons, ih, List.take_append, List.drop_append, hk z, Nat.mul_succ]
    have e1 : k * q + k - k = k * q := by omega
    have e2 : k * q + k + (f x).length - k = k * q + (f x).length := by omega
    have e3 : (f z).drop (k * q + k + (f x).length) = [] := List.drop_eq_nil_of_le (by rw [hk z]; omega)
    rw [e1, e2, List.take_of_length_le (l := f z) (by rw [hk z]; omega), e3, List.nil_append]
    simp

theorem set13 (W : World) (g a : Nat) (v0 v1 v2 v3 v4 v5 v6 v7 v8 v9 v10 v11 v12 : Value) : ((((((((((((W.setCell ⟨g, a, none⟩ v0).setCell ⟨g, a + 1, none⟩ v1).setCell ⟨g, a + 2, none⟩ v2).setCell ⟨g, a + 3, none⟩ v3).setCell ⟨g, a + 4, none⟩ v4).setCell ⟨g, a + 5, none⟩ v5).setCell ⟨g, a + 6, none⟩ v6).setCell ⟨g, a + 7, none⟩ v7).setCell ⟨g, a + 8, none⟩ v8).setCell ⟨g, a + 9, none⟩ v9).setCell ⟨g, a + 10, none⟩ v10).setCell ⟨g, a + 11, none⟩ v11).setCell ⟨g, a + 12, none⟩ v12 = setRun W g a [v0, v1, v2, v3, v4, v5, v6, v7, v8, v9, v10, v11, v12] := rfl

theorem set16 (W : World) (g a : Nat) (v0 v1 v2 v3 v4 v5 v6 v7 v8 v9 v10 v11 v12 v13 v14 v15 : Value) : (((((((((((((((W.setCell ⟨g, a, none⟩ v0).setCell ⟨g, a + 1, none⟩ v1).setCell ⟨g, a + 2, none⟩ v2).setCell ⟨g, a + 3, none⟩ v3).setCell ⟨g, a + 4, none⟩ v4).setCell ⟨g, a + 5, none⟩ v5).setCell ⟨g, a + 6, none⟩ v6).setCell ⟨g, a + 7, none⟩ v7).setCell ⟨g, a + 8, none⟩ v8).setCell ⟨g, a + 9, none⟩ v9).setCell ⟨g, a + 10, none⟩ v10).setCell ⟨g, a + 11, none⟩ v11).setCell ⟨g, a + 12, none⟩ v12).setCell ⟨g, a + 13, none⟩ v13).setCell ⟨g, a + 14, none⟩ v14).setCell ⟨g, a + 15, none⟩ v15 = setRun W g a [v0, v1, v2, v3, v4, v5, v6, v7, v8, v9, v10, v11, v12, v13, v14, v15] := rfl

end Go.Proofs.Ythhhlampphlmgaa

/-
  Package copies: Symbol.
-/
namespace Go.Proofs.Ythhhlampphlmgaa
open Go.RowKit
set_option linter.unusedVariables false
set_option linter.unusedSimpArgs false

theorem cellsY {W : World} {g : Nat} {a b : Value} (h : W.heap[g]? = some (.cells #[a, b] 30 (0, 0))) : W.cell? ⟨g, 0, none⟩ = some a ∧ W.cell? ⟨g, 1, none⟩ = some b ∧ W.frozen? ⟨g, 0, none⟩ = false ∧ W.frozen? ⟨g, 1, none⟩ = false :=
  ⟨cellB h 0 _ rfl, cellB h 1 _ rfl, by simp [World.frozen?, h], by simp [World.frozen?, h]⟩

set_option maxHeartbeats 1000000 in
set_option maxRecDepth 4000 in
theorem symbolCopy_any (id : Int) (a : Option Addr) (n c : Nat) (d : List UInt8) (w : World) (hn : d.length = n) (hs : n ≤ 65536) (hl : Lies w a (bs d)) :
    Calls Try.prog 28 #[.agg #[.int .i64 id, .slice a n c]] w fun e w' => ∃ (q : Option Addr) (c' : Nat), e = .returned (.agg #[.int .i64 id, .slice q n c']) ∧ Shut (n ≤ c' ∧ Lies w' q (bs d) ∧ Below w.heap.size w w' ∧ ∀ b o, q = some ⟨b, o, none⟩ → w.heap.size ≤ b) := by
  obtain ⟨W, hW⟩ : ∃ W, (w.alloc (.cells #[.int .i64 id, .slice a n c] 30)).alloc (.cells #[.int .i64 0, .slice none 0 0] 30) = W := ⟨_, rfl⟩
  have hB : Below w.heap.size w W := by rw [← hW]; exact ((Below.refl _ _).alloc (Nat.le_refl _) _).alloc (by simp) _
  have hk : W.heap[w.heap.size]? = some (.cells #[.int .i64 id, .slice a n c] 30 (0, 0)) := by rw [← hW, heap_alloc_eq, if_neg (by simp), heap_alloc_eq, if_pos rfl]
  have hr : W.heap[w.heap.size + 1]? = some (.cells #[.int .i64 0, .slice none 0 0] 30 (0, 0)) := by rw [← hW, heap_alloc_eq, if_pos (by simp)]
  have hC := cloneK a n c (bs d) W (by rw [bs_length, hn]; omega) (bs_oneK d) hs (hl.below hB (Nat.le_refl _))
  obtain ⟨c0, c1, f0, f1⟩ := cellsY hk
  have HW := Shut.mk hW
  clear hW hl
  go_enter Try.func28, Try.ntmps28
  go_upto_region 1 with fail
  rw [HW.out]
  clear HW
  go_wp2_with fail
  refine hC.mono ?_
  rintro e W1 ⟨q, c', rfl, HO⟩
  have hb1 := HO.out.2.2.2
  have hF1 := hB.trans (hb1.mono hB.size)
  have hk1 := blkB hk hb1
  have hr1 := blkB hr hb1
  have hqn : Shut (∀ b o, q = some ⟨b, o, none⟩ → w.heap.size + 1 < b) := ⟨fun b o e => by have := (HO.out.1.lt b (by rw [e]; rfl)).1; have := (Array.getElem?_eq_some_iff.1 hr).1; omega⟩
  clear hC hk hr hb1 c0 c1 f0 f1
  obtain ⟨c0, c1, f0, f1⟩ := cellsY hk1
  go_upto_region 2 with fail
  obtain ⟨W2, hW2, hk2, ho2, hB2⟩ := setSecond W1 w.heap.size 30 _ _ (.slice q n c') hk1
  rw [hW2]
  have hF2 := hB2 _ _ (Nat.le_refl _) hF1
  have hr2 : W2.heap[w.heap.size + 1]? = some (.cells #[.int .i64 0, .slice none 0 0] 30 (0, 0)) := by rw [ho2 _ (by omega)]; exact hr1
  have hl2 := liesG HO.out.2.2.1 ho2 (fun b o e => by have := hqn.out b o e; omega)
  clear hW2 hB2 ho2 hk1 hr1 hF1 c0 c1 f0 f1
  obtain ⟨c0, c1, f0, f1⟩ := cellsY hk2
  obtain ⟨d0, d1, g0, g1⟩ := cellsY hr2
  go_wp2
  obtain ⟨W9, hW9, hb9, hk9, hB9⟩ := box2K W2 (w.heap.size + 1) 30 _ _ (.int .i64 id) (.slice q n c') hr2
  rw [hW9]
  have R : Shut (n ≤ c' ∧ Lies W9 q (bs d) ∧ Below w.heap.size w W9 ∧ ∀ b o, q = some ⟨b, o, none⟩ → w.heap.size ≤ b) := ⟨HO.out.2.1, liesG hl2 hk9 (fun b o e => by have := hqn.out b o e; omega), hB9 _ _ (by omega) hF2, fun b o e => by have := hqn.out b o e; omega⟩
  clear hW9 hB9 hk9 c0 c1 f0 f1 d0 d1 g0 g1
  obtain ⟨c0, c1, f0, f1⟩ := cellsY hb9
  refine bodyPost_ret (v := .agg #[.int .i64 id, .slice q n c']) (by simp [results, Try.results28, go_sem, c0, c1]) rfl ?_
  exact ⟨q, c', rfl, R⟩

end Go.Proofs.Ythhhlampphlmgaa

/-
  Chapter 10: slices.Clone at mails; package copies' Mail (mailCopy).
-/
namespace Go.Proofs.Ythhhlampphlmgaa
open Go.RowKit
set_option linter.unusedVariables false
set_option linter.unusedSimpArgs false

theorem info_cloneM : (Try.prog.info? 34).map (fun i => (i.zero, i.size, i.bytes)) = some (some (.agg #[.int .i64 0, .int .i64 0, .int .i64 0, .int .i64 0, .int .i64 0, .int .i64 0, .int .i64 0, .int .i64 0, .int .i64 0, .int .i64 0, .slice none 0 0, .int .i64 0, .int .i64 0]), 13, 120) := by kernel_rfl

set_option maxHeartbeats 1000000 in
set_option maxRecDepth 8000 in
theorem cloneM (p : Option Addr) (n cp : Nat) (xs : List Value) (w : World) (hx : xs.length = n * 13) (hone : ∀ v ∈ xs, v.oneCell' = true) (hn : n ≤ 65536) (hl : Lies w p xs) :
    Calls Try.prog 12 #[.slice p n cp] w fun e w' => ∃ (q : Option Addr) (c : Nat), e = .returned (.slice q n c) ∧ Shut (w'.ownsRow w.heap.size 34 13 (.slice q n c) n xs ∧ n ≤ c ∧ Lies w' q xs ∧ Below w.heap.size w w') := by
  obtain ⟨i0, hi, hz0, hz1, hz2⟩ := info_parts info_cloneM
  have hnb : n * 13 ≤ 2000000 := by omega
  cases p with
  | none =>
    have h0 : n = 0 := by
      rcases Nat.eq_zero_or_pos n with h | h
      · exact h
      · obtain ⟨_, _, e, _⟩ := hl 0 (xs[0]'(by omega)) (List.getElem?_eq_getElem (by omega))
        cases e
    subst h0
    have hx0 : xs = [] := List.eq_nil_of_length_eq_zero (by omega)
    subst hx0
    have hne : ∀ W : World, (binOp .eql 22 (.slice none 0 cp) (.slice none 0 0)).run Try.prog W = .ok (.bool true) W := fun W => Lib.run_eql_slice_nil W 22 34 none 0 cp 0 0 Try.underlying22
    go_enter Try.func12, Try.ntmps12
    go_wp2
    go_ret
    exact ⟨none, 0, rfl, ⟨World.ownsRow_nil _ _ _ _, Nat.le_refl _, Lies.nil _ _, Below.refl _ _⟩⟩
  | some ad =>
    have hne : ∀ W : World, (binOp .eql 22 (.slice (some ad) n cp) (.slice none 0 0)).run Try.prog W = .ok (.bool false) W := fun W => Lib.run_eql_slice_nil W 22 34 (some ad) n cp 0 0 Try.underlying22
    have hown : (w.alloc (.cells #[] 34)).ownsRow w.heap.size 34 13 (.slice (some ⟨w.heap.size, 0, none⟩) 0 0) 0 [] :=
      ⟨rfl, .inr ⟨w.heap.size, 0, #[], rfl, Nat.le_refl _, by rw [heap_alloc_eq, if_pos rfl], Nat.le_refl _, by unfold maxLen; omega, rfl, rfl⟩⟩
    have hla := hl.alloc (.cells #[] 34)
    have HX := Shut.mk (And.intro hx hone)
    clear hl hx hone
    go_enter Try.func12, Try.ntmps12
    go_wp2_with (first | (at_builtin; refine wpList_append_own _ rfl _ _ 22 rfl w.heap.size 34 i0 (.agg #[.int .i64 0, .int .i64 0, .int .i64 0, .int .i64 0, .int .i64 0, .int .i64 0, .int .i64 0, .int .i64 0, .int .i64 0, .int .i64 0, .slice none 0 0, .int .i64 0, .int .i64 0]) 13 120 Try.underlying22 hi hz0 hz1 hz2 rfl (by decide) _ _ _ rfl hown ad n cp xs rfl ?c0 ?c1 ?c2 ?c3 ?c4 ?c5 ?_) | fail)
    case c0 => exact HX.out.1
    case c1 => exact lies_gen hla
    case c2 => exact HX.out.2
    case c3 => unfold maxLen; omega
    case c4 => omega
    case c5 => simp
    intro v' w' hown' hgrow _
    have hb : Below w.heap.size w w' := ((Below.refl _ _).alloc (Nat.le_refl _) _).grown hgrow (by simp) fun g hg => (hown.lt g hg).1
    obtain ⟨q, c, rfl, h1, h2⟩ := own_gen hown'
    have R : Shut (w'.ownsRow w.heap.size 34 13 (.slice q n c) n xs ∧ n ≤ c ∧ Lies w' q xs ∧ Below w.heap.size w w') := ⟨hown', h2, h1, hb⟩
    clear hgrow hown hla hown' hb h1 h2
    go_wp2
    go_ret
    exact ⟨q, c, rfl, R⟩

theorem frz {W : World} {g : Nat} {c : Array Value} {T : TypeId} (h : W.heap[g]? = some (.cells c T (0, 0))) (j : Nat) : W.frozen? ⟨g, j, none⟩ = false := by simp [World.frozen?, h]

/-- the list of its bytes is told anew in a mail's box -/
theorem setData (W : World) (g : Nat) (f t k : Int) (hd : Hd) (id : Int) (da : Option Addr) (dn dc : Nat) (n y : Int) (v : Value) (h : W.heap[g]? = some (.cells #[.int .i64 f, .int .i64 t, .int .i64 k, .int .i64 hd.F, .int .i64 hd.Q, .int .i64 hd.T, .int .i64 hd.L, .int .i64 hd.B, .int .i64 hd.K, .int .i64 id, .slice da dn dc, .int .i64 n, .int .i64 y] 34 (0, 0))) :
    ∃ W', (W.setCell ⟨g, 9, none⟩ (.int .i64 id)).setCell ⟨g, 10, none⟩ v = W' ∧ W'.heap[g]? = some (.cells #[.int .i64 f, .int .i64 t, .int .i64 k, .int .i64 hd.F, .int .i64 hd.Q, .int .i64 hd.T, .int .i64 hd.L, .int .i64 hd.B, .int .i64 hd.K, .int .i64 id, v, .int .i64 n, .int .i64 y] 34 (0, 0)) ∧ (∀ k, k ≠ g → W'.heap[k]? = W.heap[k]?) ∧ ∀ B w, B ≤ g → Below B w W → Below B w W' := by
  refine ⟨_, rfl, ?_, ?_, ?_⟩
  · have h9 := setCell_blk (v := .int .i64 id) h 9
    have := setCell_blk (v := v) h9 10
    simpa using this
  · intro k hk
    rw [setCell_far _ _ hk, setCell_far _ _ hk]
  · intro B w hB hb
    exact (hb.setCell (p := ⟨g, 9, none⟩) hB _).setCell (p := ⟨g, 10, none⟩) hB _

/-- what mailCopy leaves -/
def MlNew (B : Nat) (w' : World) (y x : MMl) : Prop := x.m = y.m ∧ MailIn w' x ∧ x.m.d.length ≤ x.dc ∧ ∀ b o, x.da = some ⟨b, o, none⟩ → B ≤ b

set_option maxHeartbeats 2000000 in
set_option maxRecDepth 4000 in
theorem mailCopy0 (f t k : Int) (h : Hd) (id : Int) (da : Option Addr) (d : List UInt8) (dn dc : Nat) (n y : Int) (w : World) (hdn : d.length = dn) (hs : dn ≤ 65536) (hl : Lies w da (bs d)) :
    Calls Try.prog 17 #[.agg #[.int .i64 f, .int .i64 t, .int .i64 k, .int .i64 h.F, .int .i64 h.Q, .int .i64 h.T, .int .i64 h.L, .int .i64 h.B, .int .i64 h.K, .int .i64 id, .slice da dn dc, .int .i64 n, .int .i64 y]] w fun e w' => ∃ (q : Option Addr) (c' : Nat), e = .returned (.agg #[.int .i64 f, .int .i64 t, .int .i64 k, .int .i64 h.F, .int .i64 h.Q, .int .i64 h.T, .int .i64 h.L, .int .i64 h.B, .int .i64 h.K, .int .i64 id, .slice q dn c', .int .i64 n, .int .i64 y]) ∧ Shut (dn ≤ c' ∧ Lies w' q (bs d) ∧ Below w.heap.size w w' ∧ ∀ b o, q = some ⟨b, o, none⟩ → w.heap.size ≤ b) := by
  obtain ⟨W, hW⟩ : ∃ W, (w.alloc (.cells #[.int .i64 f, .int .i64 t, .int .i64 k, .int .i64 h.F, .int .i64 h.Q, .int .i64 h.T, .int .i64 h.L, .int .i64 h.B, .int .i64 h.K, .int .i64 id, .slice da dn dc, .int .i64 n, .int .i64 y] 34)).alloc (.cells #[.int .i64 0, .int .i64 0, .int .i64 0, .int .i64 0, .int .i64 0, .int .i64 0, .int .i64 0, .int .i64 0, .int .i64 0, .int .i64 0, .slice none 0 0, .int .i64 0, .int .i64 0] 34) = W := ⟨_, rfl⟩
  have hB : Below w.heap.size w W := by rw [← hW]; exact ((Below.refl _ _).alloc (Nat.le_refl _) _).alloc (by simp) _
  have hk : W.heap[w.heap.size]? = some (.cells #[.int .i64 f, .int .i64 t, .int .i64 k, .int .i64 h.F, .int .i64 h.Q, .int .i64 h.T, .int .i64 h.L, .int .i64 h.B, .int .i64 h.K, .int .i64 id, .slice da dn dc, .int .i64 n, .int .i64 y] 34 (0, 0)) := by rw [← hW, heap_alloc_eq, if_neg (by simp), heap_alloc_eq, if_pos rfl]
  have hr : W.heap[w.heap.size + 1]? = some (.cells #[.int .i64 0, .int .i64 0, .int .i64 0, .int .i64 0, .int .i64 0, .int .i64 0, .int .i64 0, .int .i64 0, .int .i64 0, .int .i64 0, .slice none 0 0, .int .i64 0, .int .i64 0] 34 (0, 0)) := by rw [← hW, heap_alloc_eq, if_pos (by simp)]
  have hC := symbolCopy_any id da dn dc d W hdn hs (hl.below hB (Nat.le_refl _))
  obtain ⟨q0, q1, q2, q3, q4, q5, q6, q7, q8, q9, q10, q11, q12⟩ := mlBox hk
  have HW := Shut.mk hW
  clear hW hl
  go_enter Try.func17, Try.ntmps17
  go_upto_region 1 with fail
  rw [HW.out]
  clear HW
  go_wp2_with fail
  refine hC.mono ?_
  rintro e W1 ⟨q, c', rfl, HO⟩
  have hb1 := HO.out.2.2.1
  have hF1 := hB.trans (hb1.mono hB.size)
  have hk1 := blkB hk hb1
  have hr1 := blkB hr hb1
  have hqn : Shut (∀ b o, q = some ⟨b, o, none⟩ → w.heap.size + 1 < b) := ⟨fun b o e => by have := HO.out.2.2.2 b o e; have := (Array.getElem?_eq_some_iff.1 hr).1; omega⟩
  clear hC hk hr hb1 hB q0 q1 q2 q3 q4 q5 q6 q7 q8 q9 q10 q11 q12
  obtain ⟨q0, q1, q2, q3, q4, q5, q6, q7, q8, q9, q10, q11, q12⟩ := mlBox hk1
  have f10 := frz hk1 10
  have f9 := frz hk1 9
  go_upto_region 2 with fail
  obtain ⟨W2, hW2, hk2, ho2, hB2⟩ := setData W1 w.heap.size f t k h id da dn dc n y (.slice q dn c') hk1
  rw [hW2]
  have hF2 := hB2 _ _ (Nat.le_refl _) hF1
  have hr2 : W2.heap[w.heap.size + 1]? = some (.cells #[.int .i64 0, .int .i64 0, .int .i64 0, .int .i64 0, .int .i64 0, .int .i64 0, .int .i64 0, .int .i64 0, .int .i64 0, .int .i64 0, .slice none 0 0, .int .i64 0, .int .i64 0] 34 (0, 0)) := by rw [ho2 _ (by omega)]; exact hr1
  have hl2 := liesG HO.out.2.1 ho2 (fun b o e => by have := hqn.out b o e; omega)
  clear hW2 hB2 ho2 hk1 hr1 hF1 f10 f9 q0 q1 q2 q3 q4 q5 q6 q7 q8 q9 q10 q11 q12
  obtain ⟨q0, q1, q2, q3, q4, q5, q6, q7, q8, q9, q10, q11, q12⟩ := mlBox hk2
  have d0 : W2.cell? ⟨w.heap.size + 1, 0, none⟩ = some (.int .i64 0) := cellB hr2 0 _ rfl
  have g0 := frz hr2 0
  have d1 : W2.cell? ⟨w.heap.size + 1, 1, none⟩ = some (.int .i64 0) := cellB hr2 1 _ rfl
  have g1 := frz hr2 1
  have d2 : W2.cell? ⟨w.heap.size + 1, 2, none⟩ = some (.int .i64 0) := cellB hr2 2 _ rfl
  have g2 := frz hr2 2
  have d3 : W2.cell? ⟨w.heap.size + 1, 3, none⟩ = some (.int .i64 0) := cellB hr2 3 _ rfl
  have g3 := frz hr2 3
  have d4 : W2.cell? ⟨w.heap.size + 1, 4, none⟩ = some (.int .i64 0) := cellB hr2 4 _ rfl
  have g4 := frz hr2 4
  have d5 : W2.cell? ⟨w.heap.size + 1, 5, none⟩ = some (.int .i64 0) := cellB hr2 5 _ rfl
  have g5 := frz hr2 5
  have d6 : W2.cell? ⟨w.heap.size + 1, 6, none⟩ = some (.int .i64 0) := cellB hr2 6 _ rfl
  have g6 := frz hr2 6
  have d7 : W2.cell? ⟨w.heap.size + 1, 7, none⟩ = some (.int .i64 0) := cellB hr2 7 _ rfl
  have g7 := frz hr2 7
  have d8 : W2.cell? ⟨w.heap.size + 1, 8, none⟩ = some (.int .i64 0) := cellB hr2 8 _ rfl
  have g8 := frz hr2 8
  have d9 : W2.cell? ⟨w.heap.size + 1, 9, none⟩ = some (.int .i64 0) := cellB hr2 9 _ rfl
  have g9 := frz hr2 9
  have d10 : W2.cell? ⟨w.heap.size + 1, 10, none⟩ = some (.slice none 0 0) := cellB hr2 10 _ rfl
  have g10 := frz hr2 10
  have d11 : W2.cell? ⟨w.heap.size + 1, 11, none⟩ = some (.int .i64 0) := cellB hr2 11 _ rfl
  have g11 := frz hr2 11
  have d12 : W2.cell? ⟨w.heap.size + 1, 12, none⟩ = some (.int .i64 0) := cellB hr2 12 _ rfl
  have g12 := frz hr2 12
  go_wp2
  obtain ⟨W9, hW9, hb9, hk9, hB9⟩ := box13 W2 (w.heap.size + 1) 34 _ _ _ _ _ _ _ _ _ _ _ _ _ (.int .i64 f) (.int .i64 t) (.int .i64 k) (.int .i64 h.F) (.int .i64 h.Q) (.int .i64 h.T) (.int .i64 h.L) (.int .i64 h.B) (.int .i64 h.K) (.int .i64 id) (.slice q dn c') (.int .i64 n) (.int .i64 y) hr2
  rw [hW9]
  have R : Shut (dn ≤ c' ∧ Lies W9 q (bs d) ∧ Below w.heap.size w W9 ∧ ∀ b o, q = some ⟨b, o, none⟩ → w.heap.size ≤ b) := ⟨HO.out.1, liesG hl2 hk9 (fun b o e => by have := hqn.out b o e; omega), hB9 _ _ (by omega) hF2, fun b o e => by have := hqn.out b o e; omega⟩
  clear hW9 hB9 hk9 q0 q1 q2 q3 q4 q5 q6 q7 q8 q9 q10 q11 q12 d0 g0 d1 g1 d2 g2 d3 g3 d4 g4 d5 g5 d6 g6 d7 g7 d8 g8 d9 g9 d10 g10 d11 g11 d12 g12
  obtain ⟨q0, q1, q2, q3, q4, q5, q6, q7, q8, q9, q10, q11, q12⟩ := mlBox hb9
  refine bodyPost_ret (v := .agg #[.int .i64 f, .int .i64 t, .int .i64 k, .int .i64 h.F, .int .i64 h.Q, .int .i64 h.T, .int .i64 h.L, .int .i64 h.B, .int .i64 h.K, .int .i64 id, .slice q dn c', .int .i64 n, .int .i64 y]) (by simp [results, Try.results17, go_sem, q0, q1, q2, q3, q4, q5, q6, q7, q8, q9, q10, q11, q12]) rfl ?_
  exact ⟨q, c', rfl, R⟩

theorem mailCopy_any (y : MMl) (w : World) (hs : y.m.d.length ≤ 65536) (hl : MailIn w y) :
    Calls Try.prog 17 #[.agg #[.int .i64 y.m.f, .int .i64 y.m.t, .int .i64 y.m.k, .int .i64 y.m.h.F, .int .i64 y.m.h.Q, .int .i64 y.m.h.T, .int .i64 y.m.h.L, .int .i64 y.m.h.B, .int .i64 y.m.h.K, .int .i64 y.m.id, .slice y.da y.m.d.length y.dc, .int .i64 y.m.n, .int .i64 y.m.y]] w fun e w' => ∃ x : MMl, e = .returned (.agg #[.int .i64 x.m.f, .int .i64 x.m.t, .int .i64 x.m.k, .int .i64 x.m.h.F, .int .i64 x.m.h.Q, .int .i64 x.m.h.T, .int .i64 x.m.h.L, .int .i64 x.m.h.B, .int .i64 x.m.h.K, .int .i64 x.m.id, .slice x.da x.m.d.length x.dc, .int .i64 x.m.n, .int .i64 x.m.y]) ∧ Shut (MlNew w.heap.size w' y x ∧ Below w.heap.size w w') := by
  refine (mailCopy0 y.m.f y.m.t y.m.k y.m.h y.m.id y.da y.m.d y.m.d.length y.dc y.m.n y.m.y w rfl hs hl).mono ?_
  rintro e w' ⟨q, c', rfl, H⟩
  exact ⟨⟨y.m, q, c'⟩, rfl, ⟨⟨rfl, H.out.2.1, H.out.1, H.out.2.2.2⟩, H.out.2.2.1⟩⟩

end Go.Proofs.Ythhhlampphlmgaa
