import Derived.Test.YtkiejflgphjfjacDoorPart19
import Derived.Test.YtkiejflgphjfjacDoorPart6
import Derived.Test.YtkiejflgphjfjacDoorPart8
import Derived.Test.YtkiejflgphjfjacDoorPart9
/-
  SolveNever: the walk.
-/
namespace Go.Proofs.YtkiejflgphjfjacDoor
open Go.RowKit
set_option linter.unusedVariables false
set_option linter.unusedSimpArgs false

theorem cloneD_own (b o cap k : Nat) (xs : List UInt8) (w : World) (hx : xs.length = k) (hn : k ≤ 16) (ha : Lies w (some ⟨b, o, none⟩) (bs xs)) :
    Calls Tryd.prog 16 #[.slice (some ⟨b, o, none⟩) k cap] w fun e w' => ∃ (p : Option Addr) (q : Nat), e = .returned (.slice p k q) ∧ Lies w' p (bs xs) ∧ Below w.heap.size w w' ∧ k ≤ q ∧ w'.ownsRow w.heap.size 5 1 (.slice p k q) k (bs xs) := by
  subst hx
  obtain ⟨i0, hi, hz0, hz1, hz2⟩ := info_parts infoU8
  have hne : ∀ W : World, (binOp .eql 36 (.slice (some ⟨b, o, none⟩) xs.length cap) (.slice none 0 0)).run Tryd.prog W = .ok (.bool false) W := fun W => Lib.run_eql_slice_nil W 36 5 (some ⟨b, o, none⟩) xs.length cap 0 0 Tryd.underlying36
  go_enter Tryd.func16, Tryd.ntmps16
  have hown : (w.alloc (.cells #[] 5)).ownsRow w.heap.size 5 1 (.slice (some ⟨w.heap.size, 0, none⟩) 0 0) 0 [] :=
    ⟨rfl, .inr ⟨w.heap.size, 0, #[], rfl, Nat.le_refl _, by rw [heap_alloc_eq, if_pos rfl], Nat.le_refl _, by unfold maxLen; omega, rfl, rfl⟩⟩
  have hla := ha.alloc (.cells #[] 5)
  clear ha
  go_wp2_with (first | (at_builtin; refine wpList_append_own _ rfl _ _ 36 rfl w.heap.size 5 i0 (.int .u8 0) 1 1 Tryd.underlying36 hi hz0 hz1 hz2 rfl (by decide) _ _ _ rfl hown ⟨b, o, none⟩ xs.length cap (bs xs) rfl ?c0 ?c1 ?c2 ?c3 ?c4 ?c5 ?_) | go_in)
  case c0 => simp [bs]
  case c1 =>
    intro j u hj
    have := hla.at hj
    simpa [Addr.add_lit] using this
  case c2 =>
    intro v hv
    obtain ⟨x, _, rfl⟩ := List.mem_map.1 hv
    rfl
  case c3 => unfold maxLen; omega
  case c4 => omega
  case c5 => simp
  intro v' w' hown' hgrow _
  have hb : Below w.heap.size w w' := ((Below.refl _ _).alloc (Nat.le_refl _) _).grown hgrow (by simp) fun g hg => (hown.lt g hg).1
  clear hgrow hown hla
  obtain ⟨p, q, hv, hpq⟩ := own_slice hown'
  subst hv
  obtain ⟨p', q', hv', hlp, _⟩ := own_lies hown'
  cases hv'
  have HO := Shut.mk hown'
  clear hown'
  go_wp2
  go_ret
  exact ⟨p, q, rfl, hlp, hb, hpq, by simpa using HO.out⟩

theorem lies_put {w : World} {b j : Nat} {xs : List Value} {v : Value} (h : Lies w (some ⟨b, 0, none⟩) xs) (hj : j < xs.length) : Lies (w.setCell ⟨b, j, none⟩ v) (some ⟨b, 0, none⟩) (xs.set j v) := by
  refine Lies.mk fun k hk => ?_
  have hk' : k < xs.length := by simpa using hk
  have h0 := h.at (List.getElem?_eq_getElem hk')
  rw [Nat.zero_add] at h0 ⊢
  by_cases e : j = k
  · subst e
    rw [World.cell?_setCell_same _ _ _ h0]
    simp
  · rw [World.cell?_setCell_other _ _ _ _ (by intro h; injection h; omega), h0]
    simp [List.getElem_set, e]

theorem symCells_set {Y : MSym} : ∀ {l : List MSym} {j : Nat} (hj : j < l.length), Y.id = l[j].id → symCells (l.set j Y) = (symCells l).set (j * 2 + 1) Y.dv := by
  intro l
  induction l with
  | nil => intro j hj; simp at hj
  | cons r l ih =>
    intro j hj he
    have e : ∀ r l, symCells (r :: l) = .int .i64 r.id :: r.dv :: symCells l := fun _ _ => rfl
    cases j with
    | zero => simp only [List.set_cons_zero, e]; simp at he; rw [he]; rfl
    | succ j =>
      have := ih (j := j) (by simpa using hj) (by simpa using he)
      rw [List.set_cons_succ, e, e, this, show (j + 1) * 2 + 1 = (j * 2 + 1) + 1 + 1 by omega, List.set_cons_succ, List.set_cons_succ]

theorem u8_one (x : UInt8) : bits .xor .u8 (x.toNat : Int) 1 = ((x ^^^ 1).toNat : Int) := by
  have := u8xor x 1
  simpa using this

theorem u8_turned (x : UInt8) : x ^^^ 1 ≠ x := by
  intro h
  have h2 := congrArg (x ^^^ ·) h
  simp only [← UInt8.xor_assoc, UInt8.xor_self, UInt8.zero_xor] at h2
  exact absurd h2 (by decide)

/-- where nothing is asked -/
theorem never_out (B K : Int) (n : Nat) (a : Option Addr) (cap : Nat) (s3 : Value) (kk : Int) (q : Int) (w : World) (hB : I64 B) (hK : I64 K) (hn : n ≤ maxLen) (hq : chkP B K = q) (h : q ≠ 0 ∨ (n : Int) ≠ B) :
    Calls Tryd.prog 4 #[.agg #[.int .i64 B, .int .i64 K], .slice a n cap, s3, .int .i64 kk] w fun e w' => e = .returned (.bool true) ∧ Below w.heap.size w w' := by
  unfold maxLen at hn
  have hBl : Below w.heap.size w (w.alloc (.cells #[.int .i64 B, .int .i64 K] 23)) := (Below.refl _ _).alloc (Nat.le_refl _) _
  have blk : (w.alloc (.cells #[.int .i64 B, .int .i64 K] 23)).heap[w.heap.size]? = some (.cells #[.int .i64 B, .int .i64 K] 23 (0, 0)) := by rw [heap_alloc_eq, if_pos rfl]
  have HB := Shut.mk blk
  have HQ := Shut.mk hq
  have HH : Shut ((q != 0) = true ∨ (q = 0 ∧ ((n : Int) != B) = true)) := ⟨by
    by_cases h0 : q = 0
    · exact .inr ⟨h0, by rcases h with h | h; exact absurd h0 h; simpa using h⟩
    · exact .inl (by simpa using h0)⟩
  clear blk hq h
  go_enter Tryd.func4, Tryd.ntmps4
  go_wp2_with fail
  refine (solved_any _).mono ?_
  rintro e w1 ⟨rfl, hb1⟩
  obtain ⟨x0, x1⟩ := cells2 (blk_below HB.out hb1)
  replace HB := Shut.mk (blk_below HB.out hb1)
  replace hBl := hBl.trans (hb1.mono hBl.size)
  clear hb1
  go_wp2_with fail
  refine (cutCheck_any B K _ hB hK).mono ?_
  rintro e w2 ⟨rfl, hb2⟩
  rw [HQ.out]
  obtain ⟨y0, y1⟩ := cells2 (blk_below HB.out hb2)
  replace hBl := hBl.trans (hb2.mono hBl.size)
  clear hb2 x0 x1
  rcases HH.out with h1 | ⟨rfl, h2⟩
  all_goals
    go_wp2_with fail
    refine (solved_any _).mono ?_
    rintro e w3 ⟨rfl, hb3⟩
    replace hBl := hBl.trans (hb3.mono hBl.size)
    clear hb3
    go_wp2
    go_ret
    exact ⟨rfl, hBl⟩

end Go.Proofs.YtkiejflgphjfjacDoor

/-
  SolveNever: the walk, where all is right.
-/
namespace Go.Proofs.YtkiejflgphjfjacDoor
open Go.RowKit
set_option linter.unusedVariables false
set_option linter.unusedSimpArgs false

/-- what the first Decode of the law answers -/
theorem never_first {B K : Int} {n k nb : Nat} (g : Good B K n k nb) {c : List UInt8} (hc : c.length = n) {xs : List Int} {ls : List LSym} (hls : ls = (idsOf xs).map (symOf nb k c)) :
    (decCode B K ls = 8 ∧ decRes B K ls = []) ∨ (decCode B K ls = 0 ∧ decRes B K ls = c ∧ 0 < (idsOf xs).length) := by
  subst hls
  obtain ⟨P, hP, hR, hS, hT, hA⟩ := sym_rows g c (idsOf xs) (idsOf_le xs)
  have h60 : (idsOf xs).length ≤ 60 := by rw [idsOf_length]; omega
  rcases dec_true g hc (idsOf_le xs) h60 hP with ⟨_, h⟩ | ⟨hl, h1, h2⟩
  · exact .inl h
  · refine .inr ⟨h1, h2, ?_⟩
    have hb := g.b1
    rcases Nat.eq_zero_or_pos (idsOf xs).length with h0 | h0
    · have e : idsOf xs = [] := List.eq_nil_of_length_eq_zero h0
      rw [e] at hP
      simp [addAll] at hP
      subst hP
      simp at hl
      omega
    · exact h0

/-- the list behind both stores -/
theorem never_stored {w w5 : World} {lb pb j k q nb B0 : Nat} {l : List MSym} {c : List UInt8} {v : Value} (hj : j < l.length) (hv : v.ownBlock = some lb) (hl : Lies w5 (some ⟨lb, 0, none⟩) (symCells l)) (hall : ∀ y ∈ l, SymIn w5 y ∧ ∀ b o, y.a = some ⟨b, o, none⟩ → b < pb ∧ v.ownBlock ≠ some b) (hlp : lb < pb)
    (hd : Lies w5 (some ⟨pb, 0, none⟩) (bs l[j].d)) (h1 : 1 ≤ l[j].d.length) (h2 : l[j].d.length = k) (k2 : k ≤ 16) (x : UInt8) (hx : l[j].d[0]? = some x) :
    ∃ l' : List MSym, l'.length = l.length ∧ Lies ((w5.setCell ⟨lb, j * 2 + 1, none⟩ (.slice (some ⟨pb, 0, none⟩) k q)).setCell ⟨pb, 0, none⟩ (.int .u8 ((x ^^^ 1).toNat : Int))) (some ⟨lb, 0, none⟩) (symCells l') ∧
      (∀ y ∈ l', SymIn ((w5.setCell ⟨lb, j * 2 + 1, none⟩ (.slice (some ⟨pb, 0, none⟩) k q)).setCell ⟨pb, 0, none⟩ (.int .u8 ((x ^^^ 1).toNat : Int))) y) ∧ (l[j].id, l[j].d.set 0 (x ^^^ 1)) ∈ l'.map MSym.says := by
  have gl : w5.grownBy (w5.setCell ⟨lb, j * 2 + 1, none⟩ (.slice (some ⟨pb, 0, none⟩) k q)) (some lb) := grown_setCell w5 lb _ _
  have gp := grown_setCell (w5.setCell ⟨lb, j * 2 + 1, none⟩ (.slice (some ⟨pb, 0, none⟩) k q)) pb 0 (.int .u8 ((x ^^^ 1).toNat : Int))
  refine ⟨l.set j ⟨l[j].id, some ⟨pb, 0, none⟩, q, l[j].d.set 0 (x ^^^ 1)⟩, by simp, ?_, ?_, ?_⟩
  · rw [symCells_set (Y := ⟨l[j].id, some ⟨pb, 0, none⟩, q, l[j].d.set 0 (x ^^^ 1)⟩) hj rfl]
    refine lies_grown gp ?_ fun b o e => by cases e; omega
    have := lies_put (v := (MSym.dv ⟨l[j].id, some ⟨pb, 0, none⟩, q, l[j].d.set 0 (x ^^^ 1)⟩)) hl (j := j * 2 + 1) (by rw [symCells_length]; omega)
    simpa [MSym.dv, h2] using this
  · intro y hy
    rcases List.mem_or_eq_of_mem_set hy with hy | rfl
    · obtain ⟨s1, s2⟩ := hall y hy
      refine ⟨lies_grown gp (lies_grown gl s1.1 fun b o e => ?_) fun b o e => ?_, s1.2⟩
      · have := (s2 b o e).2
        intro e2
        subst e2
        exact this hv
      · have := (s2 b o e).1
        omega
    · refine ⟨?_, by simp only [List.length_set]; unfold maxLen; omega⟩
      have hd2 := lies_grown gl hd fun b o e => by cases e; omega
      have := lies_put (v := .int .u8 ((x ^^^ 1).toNat : Int)) hd2 (j := 0) (by simp [bs]; omega)
      simpa [bs, List.map_set] using this
  · refine List.mem_map.2 ⟨_, List.mem_set hj _, rfl⟩

theorem decRes_len (B K : Int) (l : List LSym) : (decRes B K l).length ≤ B.toNat := by
  unfold decRes joinRes
  repeat' split
  all_goals first
    | simp; done
    | (rw [List.length_take]; omega)

theorem sym_of {l : List MSym} {ids : List Nat} {nb k : Nat} {c : List UInt8} (h : l.map MSym.says = ids.map (symOf nb k c)) {j : Nat} (hj : j < l.length) : ∃ i : Nat, l[j].id = i ∧ l[j].d = symL nb k c i := by
  have hl := congrArg List.length h
  simp at hl
  have h2 : (l.map MSym.says)[j]? = (ids.map (symOf nb k c))[j]? := by rw [h]
  rw [List.getElem?_map, List.getElem?_map, List.getElem?_eq_getElem hj, List.getElem?_eq_getElem (by omega)] at h2
  simp [MSym.says, symOf] at h2
  exact ⟨_, h2.1, h2.2⟩

theorem own_head {w : World} {B n c : Nat} {e : TypeId} {p : Option Addr} {xs : List Value} (h : w.ownsRow B e 1 (.slice p n c) n xs) (hn : 0 < n) : ∃ g cur, p = some ⟨g, 0, none⟩ ∧ B ≤ g ∧ w.heap[g]? = some (.cells cur e (0, 0)) := by
  rcases h.2 with ⟨_, h0⟩ | ⟨g, cap, cur, e1, hb, hg, _⟩
  · omega
  · cases e1
    exact ⟨g, cur, rfl, hb, hg⟩

set_option maxHeartbeats 4000000 in
set_option maxRecDepth 8000 in
theorem never_good (n k nb m : Nat) (a : Option Addr) (cap : Nat) (c : List UInt8) (ia : Option Addr) (ic : Nat) (xs : List Int) (kk : Int) (w : World) (g : Good n k n k nb) (hl : c.length = n) (hcap : n ≤ cap) (ha : Lies w a (bs c)) (hi : Lies w ia (xs.map (Value.int .i64))) (hix : ∀ x ∈ xs, I64 x) (hxm : xs.length = m) (hmm : m ≤ maxLen) (hic : m ≤ ic) (hic2 : ic ≤ maxLen) (hkk : I64 kk) (hL : Laid w) :
    Calls Tryd.prog 4 #[.agg #[.int .i64 n, .int .i64 k], .slice a n cap, .slice ia m ic, .int .i64 kk] w fun e w' => e = .returned (.bool true) ∧ Below w.heap.size w w' := by
  have n2 := g.n2
  have k1 := g.k1
  have k2 := g.k2
  have hB : I64 n := ⟨by omega, by omega⟩
  have hK : I64 k := ⟨by omega, by omega⟩
  have hBl : Below w.heap.size w (w.alloc (.cells #[.int .i64 n, .int .i64 k] 23)) := (Below.refl _ _).alloc (Nat.le_refl _) _
  have HB : Shut ((w.alloc (.cells #[.int .i64 n, .int .i64 k] 23)).heap[w.heap.size]? = some (.cells #[.int .i64 n, .int .i64 k] 23 (0, 0))) := ⟨by rw [heap_alloc_eq, if_pos rfl]⟩
  have HQ := Shut.mk (chkP_good g)
  have HX := Shut.mk (And.intro hl (And.intro hcap (And.intro ha (And.intro hi (And.intro hix (And.intro hxm (And.intro hmm (And.intro hic (And.intro hic2 (And.intro hL g))))))))))
  clear hl hcap ha hi hix hxm hmm hic hic2 hL g
  go_enter Tryd.func4, Tryd.ntmps4
  go_wp2_with fail
  refine (solved_any _).mono ?_
  rintro e w1 ⟨rfl, hb1⟩
  obtain ⟨x0, x1⟩ := cells2 (blk_below HB.out hb1)
  replace HB := Shut.mk (blk_below HB.out hb1)
  replace hBl := hBl.trans (hb1.mono hBl.size)
  clear hb1
  go_wp2_with fail
  refine (cutCheck_any n k _ hB hK).mono ?_
  rintro e w2 ⟨rfl, hb2⟩
  rw [HQ.out]
  clear x0 x1
  obtain ⟨x0, x1⟩ := cells2 (blk_below HB.out hb2)
  replace HB := Shut.mk (blk_below HB.out hb2)
  replace hBl := hBl.trans (hb2.mono hBl.size)
  clear hb2
  have hS := symbols_good n k n k nb a cap c ia ic m xs w2 HX.out.2.2.2.2.2.2.2.2.2.2 hB hK HX.out.1 HX.out.2.1 (HX.out.2.2.1.below hBl (Nat.le_refl _)) (HX.out.2.2.2.1.below hBl (Nat.le_refl _)) HX.out.2.2.2.2.1 HX.out.2.2.2.2.2.1 HX.out.2.2.2.2.2.2.1 HX.out.2.2.2.2.2.2.2.1 HX.out.2.2.2.2.2.2.2.2.1 (HX.out.2.2.2.2.2.2.2.2.2.1.below hBl)
  go_wp2_with fail
  refine hS.mono ?_
  rintro e w3 ⟨v, rfl, l, hown, hmp, hall, hb3⟩
  clear hS x0 x1
  obtain ⟨x0, x1⟩ := cells2 (blk_below HB.out hb3)
  replace HB := Shut.mk (blk_below HB.out hb3)
  have HS2 := Shut.mk (blk_lt HB.out)
  have HB23 := Shut.mk hb3
  have HBW2 := Shut.mk hBl
  replace hBl := hBl.trans (hb3.mono hBl.size)
  obtain ⟨la, lc, rfl, hla, hml, hmc, hfr⟩ := own_syms hown
  have h60 : (idsOf xs).length ≤ 60 := by rw [idsOf_length]; omega
  have hfst := never_first (B := n) (K := k) HX.out.2.2.2.2.2.2.2.2.2.2 HX.out.1 hmp
  have hD := decode_any n k la lc l w3 hB hK hla (fun y hy => (hall y hy).1) (by unfold maxLen; omega) (HX.out.2.2.2.2.2.2.2.2.2.1.below hBl)
  rw [← hml] at hD
  have HLS := Shut.mk (And.intro hla (And.intro hall (And.intro hml (And.intro hfr (And.intro hmp hown)))))
  obtain ⟨sm, hsm⟩ : ∃ sm, (idsOf xs).length = sm := ⟨_, rfl⟩
  have HSM := Shut.mk hsm
  rw [hsm] at hD h60 hfst ⊢
  generalize decCode n k (l.map MSym.says) = code at hD hfst
  generalize decRes n k (l.map MSym.says) = L at hD hfst
  have HF := Shut.mk hfst
  clear hown hmp hall hb3 hla hml hfr hfst hsm hmc
  go_wp2_with fail
  refine hD.mono ?_
  rintro e w4 ⟨a4, c4, rfl, hl4, hb4⟩
  clear hD x0 x1
  obtain ⟨x0, x1⟩ := cells2 (blk_below HB.out hb4)
  replace HB := Shut.mk (blk_below HB.out hb4)
  replace hBl := hBl.trans (hb4.mono hBl.size)
  have HB4 := Shut.mk hb4
  have HL4 := Shut.mk hl4
  clear hb4 hl4
  have HLSM : Shut (l.length = sm) := ⟨by rw [← HLS.out.2.2.1, HSM.out]⟩
  have hEq : L = c → Calls Tryd.prog 12 #[.slice a4 n c4, .slice a n cap] w4 fun e w' => e = .returned (.bool true) ∧ ∃ n, w' = w4.drewN n := fun e => by
    subst e
    have h := equalBytes (w := w4) a4 a c4 cap L L (by rw [HX.out.1]; unfold maxLen; omega) (by rw [HX.out.1]; unfold maxLen; omega) HL4.out (HX.out.2.2.1.below hBl (Nat.le_refl _))
    rw [HX.out.1] at h
    simpa using h
  rcases HF.out with ⟨rfl, rfl⟩ | ⟨rfl, hLc, hpos⟩
  · by_cases h0 : sm = 0
    · subst h0
      go_wp2
      go_ret
      exact ⟨rfl, hBl⟩
    · have hpos : 0 < sm := by omega
      have h0' : ((sm : Int) == 0) = false := by simpa using h0
      have hA := at_any kk sm w4 hkk (by omega) (by omega)
      clear hEq
      go_wp2_with fail
      refine hA.mono ?_
      rintro e w5 ⟨rfl, hw5⟩
      have H5 : Shut (Below w3.heap.size w3 w5) := ⟨by rw [← hw5]; exact HB4.out⟩
      have HB5 : Shut (w5.heap[w.heap.size]? = some (.cells #[.int .i64 n, .int .i64 k] 23 (0, 0))) := ⟨by rw [← hw5]; exact HB.out⟩
      have hB5 : Below w.heap.size w w5 := by rw [← hw5]; exact hBl
      clear hA hw5 x0 x1 HL4 HB4 HB hBl HF h0'
      go_upto_region 10 with fail
      obtain ⟨h1, h2⟩ := atN_lt kk (n := sm) (by omega)
      obtain ⟨j, hj⟩ : ∃ j : Nat, atN kk sm = j := ⟨(atN kk sm).toNat, by omega⟩
      have hjs : j < sm := by omega
      have hjl : j < l.length := by rw [HLSM.out]; exact hjs
      rw [hj]
      clear h1 h2 hj
      obtain ⟨i, hid, hd⟩ := sym_of HLS.out.2.2.2.2.1 hjl
      obtain ⟨lb, lo, hlae⟩ := HLS.out.1.some (k := 0) (by rw [symCells_length]; omega)
      obtain ⟨hlb1, hlo, hlf⟩ := HLS.out.2.2.2.1 lb lo hlae
      subst hlo
      subst hlae
      have hlt3 := lies_lt HLS.out.1 (by rw [symCells_length]; omega) lb 0 rfl
      have hla5 := HLS.out.1.below H5.out (Nat.le_refl _)
      have hlt5 := Nat.lt_of_lt_of_le hlt3 H5.out.size
      obtain ⟨z0, z1⟩ := sym_at hla5 hjl
      have hk : l[j].d.length = k := by rw [hd, symL_length]
      have hdL := ((HLS.out.2.1 _ (List.getElem_mem hjl)).1.below H5.out).1
      obtain ⟨db, dd, hda⟩ := hdL.some (k := 0) (by simp [bs]; omega)
      rw [hda] at hdL
      simp only [MSym.dv, hda, hk, Nat.zero_add] at z1
      have hC := cloneD_own db dd l[j].c k l[j].d w5 hk k2 hdL
      have fz5 : w5.frozen? ⟨lb, j * 2 + 1, none⟩ = false := ((bcell H5.out).2 lb _ hlt3).trans (hlf _)
      obtain ⟨x, hx⟩ : ∃ x, l[j].d[0]? = some x := ⟨l[j].d[0]'(by omega), by simp⟩
      have HJ := Shut.mk (And.intro hid (And.intro hd (And.intro hk (And.intro hx (And.intro hlb1 (And.intro hlt3 hjl))))))
      have HZ1 := Shut.mk z1
      have HF5 := Shut.mk fz5
      have HT5 := Shut.mk hlt5
      generalize l[j].c = cj at z1 hC
      clear hid hd hlb1 hlf z0 hda hdL hla5 fz5 hlt3
      go_wp2_with fail
      refine hC.mono ?_
      rintro e w6 ⟨p, q, rfl, hlp, hb6, hkq, hown6⟩
      obtain ⟨pb, cur, rfl, hpb, hpk⟩ := own_head hown6 (by omega)
      have s1 := ((bcell hb6).1 lb (j * 2 + 1) hlt5).trans z1
      have sf := ((bcell hb6).2 lb (j * 2 + 1) hlt5).trans HF5.out
      have H6 := Shut.mk (And.intro hlp (And.intro hb6 (And.intro hown6 (And.intro hpb hpk))))
      clear hlp hb6 hown6 hpb hpk hC z1 HZ1
      go_upto_region 11 with fail
      have hne : lb ≠ pb := by have := HT5.out; have := H6.out.2.2.2.1; omega
      have u1 : (w6.setCell ⟨lb, j * 2 + 1, none⟩ (.slice (some ⟨pb, 0, none⟩) k q)).cell? ⟨lb, j * 2 + 1, none⟩ = some (.slice (some ⟨pb, 0, none⟩) k q) := World.cell?_setCell_same _ _ _ s1
      have hpk7 := block_set (o := j * 2 + 1) (v := .slice (some ⟨pb, 0, none⟩) k q) H6.out.2.2.2.2 (Ne.symm hne)
      have u2 : (w6.setCell ⟨lb, j * 2 + 1, none⟩ (.slice (some ⟨pb, 0, none⟩) k q)).cell? ⟨pb, 0, none⟩ = some (.int .u8 (x.toNat : Int)) := by
        rw [World.cell?_setCell_other _ _ _ _ (by intro e; injection e; omega)]
        exact H6.out.1.at (k := 0) (by simp [bs, HJ.out.2.2.2.1])
      have uf := frozen_blk hpk7 0
      have hxo := u8_one x
      have HNE := Shut.mk hne
      have HW7 : Shut (∃ W7, w6.setCell ⟨lb, j * 2 + 1, none⟩ (.slice (some ⟨pb, 0, none⟩) k q) = W7) := ⟨⟨_, rfl⟩⟩
      obtain ⟨W7, hW7⟩ := HW7.out
      rw [hW7] at u1 u2 uf ⊢
      have HE7 := Shut.mk hW7
      clear s1 sf hpk7 hne hW7 HW7
      go_upto_region 12 with fail
      have e1 : (x.toNat ^^^ 1 : Nat) = (x ^^^ 1).toNat := by simp
      rw [e1]
      clear e1 hxo u1 u2 uf
      have hs5 := hB5.size
      have hs6 := H6.out.2.1.size
      have hw2 := HBW2.out.size
      have hlb := HJ.out.2.2.2.2.1
      have hpb := H6.out.2.2.2.1
      have hk16 : k ≤ 16 := k2
      have hjl' := HJ.out.2.2.2.2.2.2
      have hb6 := H5.out.trans (H6.out.2.1.mono H5.out.size)
      have hB6 := hB5.trans (H6.out.2.1.mono hB5.size)
      have hst := never_stored (w := w) (w5 := w6) (lb := lb) (pb := pb) (j := j) (k := k) (q := q) (nb := nb) (B0 := 0) (l := l) (c := c) (v := .slice (some ⟨lb, 0, none⟩) (idsOf xs).length lc) hjl' rfl (HLS.out.1.below hb6 (Nat.le_refl _)) (fun y hy => ⟨(HLS.out.2.1 y hy).1.below hb6, fun b o e => ⟨by have := ((HLS.out.2.1 y hy).2 b o e).2.1; have := H5.out.size; omega, ((HLS.out.2.1 y hy).2 b o e).2.2⟩⟩) (by have := HT5.out; omega) H6.out.1 (by rw [HJ.out.2.2.1]; exact k1) HJ.out.2.2.1 hk16 x HJ.out.2.2.2.1
      rw [HE7.out] at hst
      have hp8 : (W7.setCell ⟨pb, 0, none⟩ (.int .u8 ((x ^^^ 1).toNat : Int))).heap[w.heap.size]? = some (.cells #[.int .i64 n, .int .i64 k] 23 (0, 0)) := by
        rw [← HE7.out]
        exact block_set (block_set (blk_below HB5.out H6.out.2.1) (by omega)) (by have := blk_lt HB5.out; omega)
      have hB8 : Below w.heap.size w (W7.setCell ⟨pb, 0, none⟩ (.int .u8 ((x ^^^ 1).toNat : Int))) := by
        rw [← HE7.out]
        exact (hB6.setCell (p := ⟨lb, j * 2 + 1, none⟩) (by simp; omega) _).setCell (p := ⟨pb, 0, none⟩) (by simp; omega) _
      generalize W7.setCell ⟨pb, 0, none⟩ (.int .u8 ((x ^^^ 1).toNat : Int)) = W8 at *
      obtain ⟨l', hll, hl8, hall8, hmem⟩ := hst
      have hD2 := decode_any n k (some ⟨lb, 0, none⟩) lc l' W8 hB hK hl8 hall8 (by rw [hll, HLSM.out]; unfold maxLen; omega) (HX.out.2.2.2.2.2.2.2.2.2.1.below hB8)
      rw [hll, HLSM.out] at hD2
      have hNT : decCode n k (l'.map MSym.says) = 0 → decRes n k (l'.map MSym.says) ≠ c := fun h0 h1 => by
        rw [HJ.out.1] at hmem
        refine never_turned HX.out.2.2.2.2.2.2.2.2.2.2 (i := i) hmem ?_ h0 h1
        have hx := HJ.out.2.2.2.1
        rw [← HJ.out.2.1]
        have h0l : 0 < l[j].d.length := by rw [HJ.out.2.2.1]; exact k1
        rw [List.getElem?_eq_getElem h0l] at hx
        simp only [List.getD_eq_getElem?_getD, List.getElem?_set_self h0l, List.getElem?_eq_getElem h0l, Option.getD_some]
        rw [Option.some.inj hx]
        exact u8_turned x
      have hLn := decRes_len n k (l'.map MSym.says)
      simp only [Int.toNat_natCast] at hLn
      generalize decCode n k (l'.map MSym.says) = code2 at hD2 hNT
      generalize decRes n k (l'.map MSym.says) = L2 at hD2 hNT hLn
      obtain ⟨y0, y1⟩ := cells2 hp8
      have HP8 := Shut.mk hp8
      have HNT := Shut.mk hNT
      have HLN := Shut.mk hLn
      clear hp8 hNT hLn hmem hall8 hl8 hll hs5 hs6 hw2 hlb hpb hb6 hB6 H6 HE7
      go_wp2_with fail
      refine hD2.mono ?_
      rintro e w9 ⟨a9, c9, rfl, hl9, hb9⟩
      have hB9 := hB8.trans (hb9.mono hB8.size)
      have HL9 := Shut.mk hl9
      clear hD2 hb9 hl9 y0 y1 hB8
      obtain ⟨nl, hnl⟩ : ∃ nl, L2.length = nl := ⟨_, rfl⟩
      have HNL := Shut.mk hnl
      rw [hnl]
      clear hnl
      by_cases hc2 : code2 = 0
      · subst hc2
        have hE := equalBytes (w := w9) a9 a c9 cap L2 c (by have := HLN.out; unfold maxLen; omega) (by rw [HX.out.1]; unfold maxLen; omega) HL9.out (HX.out.2.2.1.below hB9 (Nat.le_refl _))
        rw [HX.out.1, HNL.out, decide_eq_false (HNT.out rfl)] at hE
        go_wp2_with fail
        refine hE.mono ?_
        rintro e wA ⟨rfl, nn2, rfl⟩
        have hBA := hB9.trans (bdn w9 nn2 w.heap.size)
        clear hE
        go_wp2
        go_ret
        exact ⟨rfl, hBA⟩
      · have hc2' : (code2 != 0) = true := by simpa using hc2
        go_wp2
        go_ret
        exact ⟨rfl, hB9⟩
  · replace hEq := hEq hLc
    have h0' : ((sm : Int) == 0) = false := by simp; omega
    have HLL : Shut (L.length = n) := ⟨by rw [hLc]; exact HX.out.1⟩
    rw [HLL.out]
    clear hLc
    go_wp2_with fail
    refine hEq.mono ?_
    rintro e wz ⟨rfl, nn, hwz⟩
    have Hz : Below w4.heap.size w4 wz := by rw [hwz]; exact bdn _ _ _
    have hA := at_any kk sm wz hkk (by omega) (by omega)
    clear hEq hwz x0 x1
    go_wp2_with fail
    refine hA.mono ?_
    rintro e w5 ⟨rfl, hw5⟩
    have H5 : Shut (Below w3.heap.size w3 w5) := ⟨by rw [← hw5]; exact HB4.out.trans (Hz.mono HB4.out.size)⟩
    have HB5 : Shut (w5.heap[w.heap.size]? = some (.cells #[.int .i64 n, .int .i64 k] 23 (0, 0))) := ⟨by rw [← hw5]; exact blk_below HB.out Hz⟩
    have hB5 : Below w.heap.size w w5 := by rw [← hw5]; exact hBl.trans (Hz.mono hBl.size)
    clear hA hw5 HL4 HB4 HB hBl HF h0' Hz
    go_upto_region 10 with fail
    obtain ⟨h1, h2⟩ := atN_lt kk (n := sm) (by omega)
    obtain ⟨j, hj⟩ : ∃ j : Nat, atN kk sm = j := ⟨(atN kk sm).toNat, by omega⟩
    have hjs : j < sm := by omega
    have hjl : j < l.length := by rw [HLSM.out]; exact hjs
    rw [hj]
    clear h1 h2 hj
    obtain ⟨i, hid, hd⟩ := sym_of HLS.out.2.2.2.2.1 hjl
    obtain ⟨lb, lo, hlae⟩ := HLS.out.1.some (k := 0) (by rw [symCells_length]; omega)
    obtain ⟨hlb1, hlo, hlf⟩ := HLS.out.2.2.2.1 lb lo hlae
    subst hlo
    subst hlae
    have hlt3 := lies_lt HLS.out.1 (by rw [symCells_length]; omega) lb 0 rfl
    have hla5 := HLS.out.1.below H5.out (Nat.le_refl _)
    have hlt5 := Nat.lt_of_lt_of_le hlt3 H5.out.size
    obtain ⟨z0, z1⟩ := sym_at hla5 hjl
    have hk : l[j].d.length = k := by rw [hd, symL_length]
    have hdL := ((HLS.out.2.1 _ (List.getElem_mem hjl)).1.below H5.out).1
    obtain ⟨db, dd, hda⟩ := hdL.some (k := 0) (by simp [bs]; omega)
    rw [hda] at hdL
    simp only [MSym.dv, hda, hk, Nat.zero_add] at z1
    have hC := cloneD_own db dd l[j].c k l[j].d w5 hk k2 hdL
    have fz5 : w5.frozen? ⟨lb, j * 2 + 1, none⟩ = false := ((bcell H5.out).2 lb _ hlt3).trans (hlf _)
    obtain ⟨x, hx⟩ : ∃ x, l[j].d[0]? = some x := ⟨l[j].d[0]'(by omega), by simp⟩
    have HJ := Shut.mk (And.intro hid (And.intro hd (And.intro hk (And.intro hx (And.intro hlb1 (And.intro hlt3 hjl))))))
    have HZ1 := Shut.mk z1
    have HF5 := Shut.mk fz5
    have HT5 := Shut.mk hlt5
    generalize l[j].c = cj at z1 hC
    clear hid hd hlb1 hlf z0 hda hdL hla5 fz5 hlt3
    go_wp2_with fail
    refine hC.mono ?_
    rintro e w6 ⟨p, q, rfl, hlp, hb6, hkq, hown6⟩
    obtain ⟨pb, cur, rfl, hpb, hpk⟩ := own_head hown6 (by omega)
    have s1 := ((bcell hb6).1 lb (j * 2 + 1) hlt5).trans z1
    have sf := ((bcell hb6).2 lb (j * 2 + 1) hlt5).trans HF5.out
    have H6 := Shut.mk (And.intro hlp (And.intro hb6 (And.intro hown6 (And.intro hpb hpk))))
    clear hlp hb6 hown6 hpb hpk hC z1 HZ1
    go_upto_region 11 with fail
    have hne : lb ≠ pb := by have := HT5.out; have := H6.out.2.2.2.1; omega
    have u1 : (w6.setCell ⟨lb, j * 2 + 1, none⟩ (.slice (some ⟨pb, 0, none⟩) k q)).cell? ⟨lb, j * 2 + 1, none⟩ = some (.slice (some ⟨pb, 0, none⟩) k q) := World.cell?_setCell_same _ _ _ s1
    have hpk7 := block_set (o := j * 2 + 1) (v := .slice (some ⟨pb, 0, none⟩) k q) H6.out.2.2.2.2 (Ne.symm hne)
    have u2 : (w6.setCell ⟨lb, j * 2 + 1, none⟩ (.slice (some ⟨pb, 0, none⟩) k q)).cell? ⟨pb, 0, none⟩ = some (.int .u8 (x.toNat : Int)) := by
      rw [World.cell?_setCell_other _ _ _ _ (by intro e; injection e; omega)]
      exact H6.out.1.at (k := 0) (by simp [bs, HJ.out.2.2.2.1])
    have uf := frozen_blk hpk7 0
    have hxo := u8_one x
    have HNE := Shut.mk hne
    have HW7 : Shut (∃ W7, w6.setCell ⟨lb, j * 2 + 1, none⟩ (.slice (some ⟨pb, 0, none⟩) k q) = W7) := ⟨⟨_, rfl⟩⟩
    obtain ⟨W7, hW7⟩ := HW7.out
    rw [hW7] at u1 u2 uf ⊢
    have HE7 := Shut.mk hW7
    clear s1 sf hpk7 hne hW7 HW7
    go_upto_region 12 with fail
    have e1 : (x.toNat ^^^ 1 : Nat) = (x ^^^ 1).toNat := by simp
    rw [e1]
    clear e1 hxo u1 u2 uf
    have hs5 := hB5.size
    have hs6 := H6.out.2.1.size
    have hw2 := HBW2.out.size
    have hlb := HJ.out.2.2.2.2.1
    have hpb := H6.out.2.2.2.1
    have hk16 : k ≤ 16 := k2
    have hjl' := HJ.out.2.2.2.2.2.2
    have hb6 := H5.out.trans (H6.out.2.1.mono H5.out.size)
    have hB6 := hB5.trans (H6.out.2.1.mono hB5.size)
    have hst := never_stored (w := w) (w5 := w6) (lb := lb) (pb := pb) (j := j) (k := k) (q := q) (nb := nb) (B0 := 0) (l := l) (c := c) (v := .slice (some ⟨lb, 0, none⟩) (idsOf xs).length lc) hjl' rfl (HLS.out.1.below hb6 (Nat.le_refl _)) (fun y hy => ⟨(HLS.out.2.1 y hy).1.below hb6, fun b o e => ⟨by have := ((HLS.out.2.1 y hy).2 b o e).2.1; have := H5.out.size; omega, ((HLS.out.2.1 y hy).2 b o e).2.2⟩⟩) (by have := HT5.out; omega) H6.out.1 (by rw [HJ.out.2.2.1]; exact k1) HJ.out.2.2.1 hk16 x HJ.out.2.2.2.1
    rw [HE7.out] at hst
    have hp8 : (W7.setCell ⟨pb, 0, none⟩ (.int .u8 ((x ^^^ 1).toNat : Int))).heap[w.heap.size]? = some (.cells #[.int .i64 n, .int .i64 k] 23 (0, 0)) := by
      rw [← HE7.out]
      exact block_set (block_set (blk_below HB5.out H6.out.2.1) (by omega)) (by have := blk_lt HB5.out; omega)
    have hB8 : Below w.heap.size w (W7.setCell ⟨pb, 0, none⟩ (.int .u8 ((x ^^^ 1).toNat : Int))) := by
      rw [← HE7.out]
      exact (hB6.setCell (p := ⟨lb, j * 2 + 1, none⟩) (by simp; omega) _).setCell (p := ⟨pb, 0, none⟩) (by simp; omega) _
    generalize W7.setCell ⟨pb, 0, none⟩ (.int .u8 ((x ^^^ 1).toNat : Int)) = W8 at *
    obtain ⟨l', hll, hl8, hall8, hmem⟩ := hst
    have hD2 := decode_any n k (some ⟨lb, 0, none⟩) lc l' W8 hB hK hl8 hall8 (by rw [hll, HLSM.out]; unfold maxLen; omega) (HX.out.2.2.2.2.2.2.2.2.2.1.below hB8)
    rw [hll, HLSM.out] at hD2
    have hNT : decCode n k (l'.map MSym.says) = 0 → decRes n k (l'.map MSym.says) ≠ c := fun h0 h1 => by
      rw [HJ.out.1] at hmem
      refine never_turned HX.out.2.2.2.2.2.2.2.2.2.2 (i := i) hmem ?_ h0 h1
      have hx := HJ.out.2.2.2.1
      rw [← HJ.out.2.1]
      have h0l : 0 < l[j].d.length := by rw [HJ.out.2.2.1]; exact k1
      rw [List.getElem?_eq_getElem h0l] at hx
      simp only [List.getD_eq_getElem?_getD, List.getElem?_set_self h0l, List.getElem?_eq_getElem h0l, Option.getD_some]
      rw [Option.some.inj hx]
      exact u8_turned x
    have hLn := decRes_len n k (l'.map MSym.says)
    simp only [Int.toNat_natCast] at hLn
    generalize decCode n k (l'.map MSym.says) = code2 at hD2 hNT
    generalize decRes n k (l'.map MSym.says) = L2 at hD2 hNT hLn
    obtain ⟨y0, y1⟩ := cells2 hp8
    have HP8 := Shut.mk hp8
    have HNT := Shut.mk hNT
    have HLN := Shut.mk hLn
    clear hp8 hNT hLn hmem hall8 hl8 hll hs5 hs6 hw2 hlb hpb hb6 hB6 H6 HE7
    go_wp2_with fail
    refine hD2.mono ?_
    rintro e w9 ⟨a9, c9, rfl, hl9, hb9⟩
    have hB9 := hB8.trans (hb9.mono hB8.size)
    have HL9 := Shut.mk hl9
    clear hD2 hb9 hl9 y0 y1 hB8
    obtain ⟨nl, hnl⟩ : ∃ nl, L2.length = nl := ⟨_, rfl⟩
    have HNL := Shut.mk hnl
    rw [hnl]
    clear hnl
    by_cases hc2 : code2 = 0
    · subst hc2
      have hE := equalBytes (w := w9) a9 a c9 cap L2 c (by have := HLN.out; unfold maxLen; omega) (by rw [HX.out.1]; unfold maxLen; omega) HL9.out (HX.out.2.2.1.below hB9 (Nat.le_refl _))
      rw [HX.out.1, HNL.out, decide_eq_false (HNT.out rfl)] at hE
      go_wp2_with fail
      refine hE.mono ?_
      rintro e wA ⟨rfl, nn2, rfl⟩
      have hBA := hB9.trans (bdn w9 nn2 w.heap.size)
      clear hE
      go_wp2
      go_ret
      exact ⟨rfl, hBA⟩
    · have hc2' : (code2 != 0) = true := by simpa using hc2
      go_wp2
      go_ret
      exact ⟨rfl, hB9⟩

theorem W_solveNever (B K : Int) (a : Option Addr) (cap : Nat) (c : List UInt8) (ia : Option Addr) (ic : Nat) (xs : List Int) (kk : Int) (w : World) (hB : I64 B) (hK : I64 K) (hm : c.length ≤ maxLen) (hcap : c.length ≤ cap) (ha : Lies w a (bs c)) (hi : Lies w ia (xs.map (Value.int .i64))) (hix : ∀ x ∈ xs, I64 x) (hic : xs.length ≤ ic) (hic2 : ic ≤ maxLen) (hkk : I64 kk) (hL : Laid w) :
    Calls Tryd.prog 4 #[.agg #[.int .i64 B, .int .i64 K], .slice a c.length cap, .slice ia xs.length ic, .int .i64 kk] w fun e w' => e = .returned (.bool true) ∧ Below w.heap.size w w' := by
  by_cases h0 : chkP B K = 0
  · by_cases hn : (c.length : Int) = B
    · obtain ⟨n, k, nb, g⟩ := good_of h0
      have hcn : c.length = n := by have := g.eB; omega
      obtain rfl := g.eB
      obtain rfl := g.eK
      have h := never_good n k nb xs.length a cap c ia ic xs kk w g hcn (by omega) ha hi hix rfl (by omega) hic hic2 hkk hL
      rw [← hcn] at h ⊢
      exact h
    · exact never_out B K c.length a cap _ kk _ w hB hK hm rfl (.inr hn)
  · exact never_out B K c.length a cap _ kk _ w hB hK hm rfl (.inl h0)

end Go.Proofs.YtkiejflgphjfjacDoor

/-
  SolveOrder: what Decode answers by which numbers come, whatever their order.
-/
namespace Go.Proofs.YtkiejflgphjfjacDoor
open Go.RowKit
set_option linter.unusedVariables false

theorem code_two {B K : Int} {n k nb : Nat} (g : Good B K n k nb) {c : List UInt8} (hc : c.length = n) {ids : List Nat} (hi : ∀ i ∈ ids, i ≤ 9999) (hl : ids.length ≤ 60) :
    decCode B K (ids.map (symOf nb k c)) = 8 ∨ decCode B K (ids.map (symOf nb k c)) = 0 := by
  obtain ⟨P, hP, _⟩ := sym_rows g c ids hi
  rcases dec_true g hc hi hl hP with ⟨_, h, _⟩ | ⟨_, h, _⟩
  · exact .inl h
  · exact .inr h

/-- with more symbols no less is known -/
theorem code_sub {B K : Int} {n k nb : Nat} (g : Good B K n k nb) {c : List UInt8} (hc : c.length = n) {ids js : List Nat} (hi : ∀ i ∈ ids, i ≤ 9999) (hj : ∀ i ∈ js, i ≤ 9999) (hl : ids.length ≤ 60) (hm : js.length ≤ 60) (hs : ∀ i ∈ ids, i ∈ js) (h0 : decCode B K (ids.map (symOf nb k c)) = 0) :
    decCode B K (js.map (symOf nb k c)) = 0 ∧ decRes B K (js.map (symOf nb k c)) = c := by
  obtain ⟨P, hP, hR, hS, hT, hA⟩ := sym_rows g c ids hi
  obtain ⟨Q, hQ, hR2, hS2, hT2, hA2⟩ := sym_rows g c js hj
  rcases dec_true g hc hi hl hP with ⟨_, h, _⟩ | ⟨hn, _, _⟩
  · rw [h0] at h; cases h
  · have hq := full_more hR hR2 hn fun v hv => (hS2 v).2 (((hS v).1 hv).mono fun x hx => by
      simp only [List.mem_map] at hx ⊢
      obtain ⟨r, ⟨i, hii, rfl⟩, rfl⟩ := hx
      exact ⟨_, ⟨i, hs i hii, rfl⟩, rfl⟩)
    rcases dec_true g hc hj hm hQ with ⟨h, _⟩ | ⟨_, h1, h2⟩
    · omega
    · exact ⟨h1, h2⟩

theorem code_same {B K : Int} {n k nb : Nat} (g : Good B K n k nb) {c : List UInt8} (hc : c.length = n) {ids js : List Nat} (hi : ∀ i ∈ ids, i ≤ 9999) (hj : ∀ i ∈ js, i ≤ 9999) (hl : ids.length ≤ 60) (hm : js.length ≤ 60) (hs : ∀ i, i ∈ ids ↔ i ∈ js) :
    decCode B K (js.map (symOf nb k c)) = decCode B K (ids.map (symOf nb k c)) := by
  rcases code_two g hc hi hl with h | h
  · rcases code_two g hc hj hm with h2 | h2
    · rw [h, h2]
    · rw [(code_sub g hc hj hi hm hl (fun i hh => (hs i).2 hh) h2).1] at h
      cases h
  · rw [h, (code_sub g hc hi hj hl hm (fun i hh => (hs i).1 hh) h).1]

end Go.Proofs.YtkiejflgphjfjacDoor

/-
  slices.Grow of nothing and slices.Concat at symbols: the contract of each.
-/
namespace Go.Proofs.YtkiejflgphjfjacDoor
open Go.RowKit
set_option linter.unusedVariables false
set_option linter.unusedSimpArgs false

/-- a list of symbols in memory -/
structure SBlk where
  a : Option Addr
  cap : Nat
  l : List MSym

def SBlk.val (b : SBlk) : Value := .slice b.a b.l.length b.cap

theorem zeroCells_size2 (x y : Value) (n : Nat) : (Builtin.zeroCells #[x, y] n).size = n * 2 := by simp [Builtin.zeroCells]

theorem own_slice2 {w : World} {B : Nat} {e : TypeId} {v : Value} {n : Nat} {xs : List Value} (h : w.ownsRow B e 2 v n xs) : ∃ a cap, v = .slice a n cap ∧ n ≤ cap := by
  rcases h.2 with ⟨rfl, h0⟩ | ⟨g, cap, cur, rfl, hb, hg, hnc, hcm, hcs, htake⟩
  · exact ⟨none, 0, by rw [h0], by omega⟩
  · exact ⟨_, _, rfl, hnc⟩

theorem own_none2 {w : World} {B : Nat} {e : TypeId} {n q : Nat} {xs : List Value} (h : w.ownsRow B e 2 (.slice none n q) n xs) : q = 0 := by
  rcases h.2 with ⟨e1, h0⟩ | ⟨g, cap, cur, e1, hb, hg, hnc, hcm, hcs, htake⟩
  · simp at e1
    exact e1.2
  · simp at e1

set_option maxRecDepth 8000 in
set_option maxHeartbeats 1000000 in
theorem growS_nil (s : Nat) (w : World) (hs : s ≤ 65536) :
    Calls Tryd.prog 43 #[.slice none 0 0, .int .i64 s] w fun e w' => ∃ v, e = .returned v ∧ w'.ownsRow w.heap.size 39 2 v 0 [] ∧ Below w.heap.size w w' := by
  obtain ⟨i0, hi, hz0, hz1, hz2⟩ := info_parts infoSym
  by_cases h0 : s = 0
  · subst h0
    go_enter Tryd.func43, Tryd.ntmps43
    go_wp2
    go_ret
    exact ⟨_, rfl, World.ownsRow_nil _ _ _ _, Below.refl _ _⟩
  · have h1 : 0 < s := by omega
    have h2 : (0 : Int) < (s : Int) := by omega
    clear h0
    have hrz : ∀ ty, (Builtin.append_ #[24, 3] ty #[.slice none 0 0, .int .i64 s]).run Tryd.prog w = .ok (.slice (some ⟨w.heap.size, 0, none⟩) s (grownCap w s 0 39)) (w.drew.alloc (.cells (Builtin.zeroCells #[.int .i64 0, .slice none 0 0] s ++ Builtin.zeroCells #[.int .i64 0, .slice none 0 0] (grownCap w s 0 39 - s)) 39)) := fun ty =>
      Lib.run_append_nil_zeros w 24 3 ty 39 i0 (.agg #[.int .i64 0, .slice none 0 0]) .i64 .i64 Tryd.underlying24 Tryd.underlying3 hi hz0 s h1 (by omega) (by omega) (by rw [hz2]; omega)
    have hGn : s ≤ grownCap w s 0 39 := grownCap_ge w _ _ _
    have hG63 := grownCap_le_maxLen w s 0 39 (by unfold maxLen; omega)
    have HR : Hid ((w.drew.alloc (.cells (Builtin.zeroCells #[.int .i64 0, .slice none 0 0] s ++ Builtin.zeroCells #[.int .i64 0, .slice none 0 0] (grownCap w s 0 39 - s)) 39)).ownsRow w.heap.size 39 2 (.slice (some ⟨w.heap.size, 0, none⟩) 0 (grownCap w s 0 39)) 0 []) :=
      ⟨rfl, .inr ⟨w.heap.size, _, _, rfl, Nat.le_refl _, (heap_alloc_eq w.drew _ _).trans (if_pos rfl), Nat.zero_le _, hG63, by simp [zeroCells_size2]; omega, rfl⟩⟩
    generalize grownCap w s 0 39 = G at *
    unfold maxLen at hG63
    have hG : (G : Int) ≤ 9223372036854775807 := by omega
    clear hG63
    go_enter Tryd.func43, Tryd.ntmps43
    go_wp2_with (at_builtin; refine Lib.wpList_append_run _ rfl _ _ _ _ rfl _ _ rfl rfl _ _ (hrz _) ?_)
    all_goals
      go_ret
      exact ⟨_, rfl, HR.out, (Below.refl _ _).drew.alloc (Nat.le_refl _) _⟩

/-- how many bytes the first m have -/
def totS (bl : List SBlk) (m : Nat) : Nat := (((bl.map SBlk.l).take m).flatten).length

theorem totS_succ {bl : List SBlk} {m : Nat} (h : m < bl.length) : totS bl (m + 1) = totS bl m + bl[m].l.length := by
  unfold totS
  rw [List.take_succ_eq_append_getElem (by simpa using h)]
  simp

theorem totS_le (bl : List SBlk) (m : Nat) : totS bl m ≤ ((bl.map SBlk.l).flatten).length := by
  unfold totS
  have h := congrArg (fun l => l.flatten.length) (List.take_append_drop m (bl.map SBlk.l))
  simp only [List.flatten_append, List.length_append] at h
  omega

theorem concatS_step {w wr w1 : World} {v v' : Value} {bl : List SBlk} {m : Nat} (hlt : m < bl.length) (hb : Below w.heap.size w wr) (ho : wr.ownsRow w.heap.size 39 2 v (totS bl m) (symCells ((bl.map SBlk.l).take m).flatten))
    (ho' : w1.ownsRow w.heap.size 39 2 v' (totS bl m + bl[m].l.length) (symCells ((bl.map SBlk.l).take m).flatten ++ symCells bl[m].l)) (hg : wr.grownBy w1 v.ownBlock) :
    w1.ownsRow w.heap.size 39 2 v' (totS bl (m + 1)) (symCells ((bl.map SBlk.l).take (m + 1)).flatten) ∧ Below w.heap.size w w1 := by
  refine ⟨?_, hb.grown hg hb.size fun g hg' => (ho.lt g hg').1⟩
  rw [totS_succ hlt, List.take_succ_eq_append_getElem (by simpa using hlt)]
  simpa [symCells] using ho'

theorem liesS_none {w : World} {l : List MSym} (h : Lies w none (symCells l)) : l = [] := by
  cases l with
  | nil => rfl
  | cons x r =>
    obtain ⟨_, _, e, _⟩ := h 0 _ (by simp [symCells]; rfl)
    simp at e

theorem liesS_add {w : World} {ad : Addr} {l : List MSym} (h : Lies w (some ad) (symCells l)) : ∀ j u, (symCells l)[j]? = some u → w.cell? (ad.add j) = some u := by
  intro j u hu
  obtain ⟨b, o, e, hc⟩ := h j u hu
  simp at e
  subst e
  simpa [Addr.add_lit] using hc

set_option maxRecDepth 8000 in
set_option maxHeartbeats 1000000 in
theorem concatS_any (a : Option Addr) (cap : Nat) (bl : List SBlk) (w : World) (hn : bl.length ≤ maxLen) (htot : ((bl.map SBlk.l).flatten).length ≤ 65536) (ha : Lies w a (bl.map SBlk.val)) (hall : ∀ b ∈ bl, Lies w b.a (symCells b.l)) :
    Calls Tryd.prog 19 #[.slice a bl.length cap] w fun e w' => ∃ v, e = .returned v ∧ w'.ownsRow w.heap.size 39 2 v ((bl.map SBlk.l).flatten).length (symCells (bl.map SBlk.l).flatten) ∧ Below w.heap.size w w' := by
  obtain ⟨i0, hi, hz0, hz1, hz2⟩ := info_parts infoSym
  have HT : Hid (((bl.map SBlk.l).flatten).length ≤ 65536) := htot
  unfold maxLen at hn
  clear htot
  go_enter Tryd.func19, Tryd.ntmps19
  go_wp2
  go_loop [3, 11] (fun c i => ∃ m : Nat, m ≤ bl.length ∧ i = .int .i64 m ∧ c = .int .i64 (totS bl m)) (fun _ i => bl.length - (intOf i).toNat)
  case atStart => exact ⟨0, Nat.zero_le _, rfl, rfl⟩
  case round =>
    obtain ⟨m, hm, rfl, rfl⟩ := hrel
    by_cases hlt : m < bl.length
    · obtain ⟨b1, o1, rfl⟩ := ha.some (k := m) (by simpa using hlt)
      have h1 : w.cell? ⟨b1, o1 + m, none⟩ = some (.slice bl[m].a bl[m].l.length bl[m].cap) := ha.at (by simp [hlt, SBlk.val])
      have hs := totS_succ hlt
      have hle := totS_le bl (m + 1)
      have := HT.out
      have hb1 : totS bl m ≤ 65536 := by omega
      have hb2 : bl[m].l.length ≤ 65536 := by omega
      have HS : Hid (totS bl (m + 1) = totS bl m + bl[m].l.length) := hs
      clear hs hle this
      go_wp2
      go_round
      case rel => exact ⟨m + 1, by omega, by go_num, congrArg (Value.int .i64) (by rw [HS.out]; simp)⟩
      case measure => simp [intOf]; omega
    · have HM : Hid (m = bl.length) := by have : m = bl.length := by omega
                                          exact this
      have hle := totS_le bl m
      have := HT.out
      have hb1 : totS bl m ≤ 65536 := by omega
      clear hle this
      go_wp2_with fail
      refine (growS_nil _ _ hb1).mono ?_
      rintro e w1 ⟨v1, rfl, ho1, hb⟩
      clear hb1
      go_wp2
      go_loopw [6, 27] (fun v i wr => ∃ m : Nat, m ≤ bl.length ∧ i = .int .i64 m ∧ wr.ownsRow w.heap.size 39 2 v (totS bl m) (symCells ((bl.map SBlk.l).take m).flatten) ∧ Below w.heap.size w wr) (fun _ i _ => bl.length - (intOf i).toNat)
      case atStart => exact ⟨0, Nat.zero_le _, rfl, ho1, hb⟩
      case round =>
        clear ho1 hb
        obtain ⟨m, hm, rfl, hown, hbw⟩ := hrel
        by_cases hlt : m < bl.length
        · obtain ⟨b1, o1, rfl⟩ := ha.some (k := m) (by simpa using hlt)
          have h1 : wr.cell? ⟨b1, o1 + m, none⟩ = some (.slice bl[m].a bl[m].l.length bl[m].cap) := (ha.below hbw (Nat.le_refl _)).at (by simp [hlt, SBlk.val])
          have hla := (hall bl[m] (by simp)).below hbw (Nat.le_refl _)
          have hsz := hbw.size
          have hs := totS_succ hlt
          have hle := totS_le bl (m + 1)
          have := HT.out
          have hb1 : totS bl m + bl[m].l.length ≤ 65536 := by omega
          have HS : Hid (totS bl (m + 1) = totS bl m + bl[m].l.length) := hs
          clear hs hle this
          cases had : bl[m].a with
          | none =>
            rw [had] at h1 hla
            have HE : Hid (bl[m].l = []) := liesS_none hla
            have h0 : bl[m].l.length = 0 := by rw [HE.out]; rfl
            rw [h0] at h1
            obtain ⟨p6, q6, rfl, hq6⟩ := own_slice2 hown
            have hq : p6 = none → q6 = 0 := fun e => by subst e; exact own_none2 hown
            have R : Hid (wr.ownsRow w.heap.size 39 2 (.slice p6 (totS bl m) q6) (totS bl (m + 1)) (symCells ((bl.map SBlk.l).take (m + 1)).flatten)) := by
              show wr.ownsRow w.heap.size 39 2 (.slice p6 (totS bl m) q6) (totS bl (m + 1)) (symCells ((bl.map SBlk.l).take (m + 1)).flatten)
              rw [HS.out, List.take_succ_eq_append_getElem (by simpa using hlt)]
              simpa [h0, HE.out] using hown
            clear had hla h0 hown hb1
            go_wp2_with (first | (at_builtin; refine Lib.wpList_append_run _ rfl _ _ _ _ rfl _ _ rfl rfl _ _ (run_append_nothing _ _ _ 39 i0 Tryd.underlying24 hi _ _ _ _ hq6) ?_) | go_in)
            go_roundw
            case rel => exact ⟨m + 1, by omega, by go_num, R.out, hbw⟩
            case measure => simp [intOf]; omega
          | some ad =>
            rw [had] at h1 hla
            clear had
            go_wp2_with (first | (at_builtin; refine wpList_append_own _ rfl _ _ 24 rfl w.heap.size 39 i0 (.agg #[.int .i64 0, .slice none 0 0]) 2 32 Tryd.underlying24 hi hz0 hz1 hz2 rfl (by decide) _ _ _ rfl hown ad bl[m].l.length bl[m].cap (symCells bl[m].l) rfl ?c0 ?c1 ?c2 ?c3 ?c4 ?c5 ?_) | go_in)
            case c0 => rw [symCells_length]; omega
            case c1 => exact liesS_add hla
            case c2 =>
              intro u hu
              obtain ⟨x, _, hx⟩ := List.mem_flatMap.1 hu
              simp at hx
              rcases hx with rfl | rfl <;> rfl
            case c3 => unfold maxLen; omega
            case c4 => omega
            case c5 => omega
            intro v' w1 hown' hgrow _
            have R := concatS_step hlt hbw hown hown' hgrow
            clear hown' hgrow hown hbw h1 hla
            go_wp2
            go_roundw
            case rel => exact ⟨m + 1, by omega, by go_num, R.1, R.2⟩
            case measure => simp [intOf]; omega
        · have HK : Hid (m = bl.length) := by have : m = bl.length := by omega
                                              exact this
          go_wp2
          go_ret
          refine ⟨_, rfl, ?_, hbw⟩
          have hk := HK.out
          subst hk
          unfold totS at hown
          rwa [List.take_of_length_le (by simp)] at hown

end Go.Proofs.YtkiejflgphjfjacDoor
