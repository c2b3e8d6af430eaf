import Derived.Test.YtakkajjoeimkdaaGreatDoorRows
import Derived.Test.YtakkajjoeimkdaaGreatDoorPart2
import Derived.Deep.OwnRows
import Derived.OwnWalk
import Derived.Lib.SliceRun
import Derived.Test.YtakkajjoeimkdaaGreatDoorPart17
import Derived.Deep.CutBlock
import Derived.Laws.IdiomCopy
import Derived.Deep.DrawnRows
namespace Go.Proofs.YtakkajjoeimkdaaGreatDoor
open Go.RowKit
set_option linter.unusedVariables false
set_option linter.unusedSimpArgs false

theorem info_cloneK : (Tryz.prog.info? 5).map (fun i => (i.zero, i.size, i.bytes)) = some (some (.int .u8 0), 1, 1) := by kernel_rfl

set_option maxHeartbeats 1000000 in
set_option maxRecDepth 8000 in
theorem cloneK (p : Option Addr) (n cp : Nat) (xs : List Value) (w : World) (hx : xs.length = n * 1) (hone : ∀ v ∈ xs, v.oneCell' = true) (hn : n ≤ 65536) (hl : Lies w p xs) :
  Calls Tryz.prog 128 #[.slice p n cp] w fun e w' => ∃ (q : Option Addr) (c : Nat), e = .returned (.slice q n c) ∧ Shut (w'.ownsRow w.heap.size 5 1 (.slice q n c) n xs ∧ n ≤ c ∧ Lies w' q xs ∧ Below w.heap.size w w') := by
 obtain ⟨i0, hi, hz0, hz1, hz2⟩ := info_parts info_cloneK
 have hnb : n * 1 ≤ 2000000 := by omega
 cases p with
 | none =>
  have h0 : n = 0 := by
   rcases Nat.eq_zero_or_pos n with h | h
   ·exact h
   ·obtain ⟨_, _, e, _⟩ := hl 0 (xs[0]'(by omega)) (List.getElem?_eq_getElem (by omega))
    cases e
  subst h0
  have hx0 : xs = [] := List.eq_nil_of_length_eq_zero (by omega)
  subst hx0
  have hne : ∀ W : World, (binOp .eql 36 (.slice none 0 cp) (.slice none 0 0)).run Tryz.prog W = .ok (.bool true) W := fun W => Lib.run_eql_slice_nil W 36 5 none 0 cp 0 0 Tryz.underlying36
  go_enter Tryz.func128, Tryz.ntmps128
  go_wp2
  go_ret
  exact ⟨none, 0, rfl, ⟨World.ownsRow_nil _ _ _ _, Nat.le_refl _, Lies.nil _ _, Below.refl _ _⟩⟩
 | some ad =>
  have hne : ∀ W : World, (binOp .eql 36 (.slice (some ad) n cp) (.slice none 0 0)).run Tryz.prog W = .ok (.bool false) W := fun W => Lib.run_eql_slice_nil W 36 5 (some ad) n cp 0 0 Tryz.underlying36
  have hown : (w.alloc (.cells #[] 5)).ownsRow w.heap.size 5 1 (.slice (some ⟨w.heap.size, 0, none⟩) 0 0) 0 [] :=
   ⟨rfl, .inr ⟨w.heap.size, 0, #[], rfl, Nat.le_refl _, by rw [heap_alloc_eq, if_pos rfl], Nat.le_refl _, by unfold maxLen; omega, rfl, rfl⟩⟩
  have hla := hl.alloc (.cells #[] 5)
  have HX := Shut.mk (And.intro hx hone)
  clear hl hx hone
  go_enter Tryz.func128, Tryz.ntmps128
  go_wp2_with (first | (at_builtin; refine wpList_append_own _ rfl _ _ 36 rfl w.heap.size 5 i0 (.int .u8 0) 1 1 Tryz.underlying36 hi hz0 hz1 hz2 rfl (by decide) _ _ _ rfl hown ad n cp xs rfl ?c0 ?c1 ?c2 ?c3 ?c4 ?c5 ?_) | fail)
  case c0 => exact HX.out.1
  case c1 => exact lies_gen hla
  case c2 => exact HX.out.2
  case c3 => unfold maxLen; omega
  case c4 => omega
  case c5 => simp
  intro v' w' hown' hgrow _
  have hb : Below w.heap.size w w' := ((Below.refl _ _).alloc (Nat.le_refl _) _).grown hgrow (by simp) fun g hg => (hown.lt g hg).1
  obtain ⟨q, c, rfl, h1, h2⟩ := own_gen hown'
  have R : Shut (w'.ownsRow w.heap.size 5 1 (.slice q n c) n xs ∧ n ≤ c ∧ Lies w' q xs ∧ Below w.heap.size w w') := ⟨hown', h2, h1, hb⟩
  clear hgrow hown hla hown' hb h1 h2
  go_wp2
  go_ret
  exact ⟨q, c, rfl, R⟩

theorem info_cloneB : (Tryz.prog.info? 5).map (fun i => (i.zero, i.size, i.bytes)) = some (some (.int .u8 0), 1, 1) := by kernel_rfl

set_option maxHeartbeats 1000000 in
set_option maxRecDepth 8000 in
theorem cloneB (p : Option Addr) (n cp : Nat) (xs : List Value) (w : World) (hx : xs.length = n * 1) (hone : ∀ v ∈ xs, v.oneCell' = true) (hn : n ≤ 65536) (hl : Lies w p xs) :
  Calls Tryz.prog 103 #[.slice p n cp] w fun e w' => ∃ (q : Option Addr) (c : Nat), e = .returned (.slice q n c) ∧ Shut (w'.ownsRow w.heap.size 5 1 (.slice q n c) n xs ∧ n ≤ c ∧ Lies w' q xs ∧ Below w.heap.size w w') := by
 obtain ⟨i0, hi, hz0, hz1, hz2⟩ := info_parts info_cloneB
 have hnb : n * 1 ≤ 2000000 := by omega
 cases p with
 | none =>
  have h0 : n = 0 := by
   rcases Nat.eq_zero_or_pos n with h | h
   ·exact h
   ·obtain ⟨_, _, e, _⟩ := hl 0 (xs[0]'(by omega)) (List.getElem?_eq_getElem (by omega))
    cases e
  subst h0
  have hx0 : xs = [] := List.eq_nil_of_length_eq_zero (by omega)
  subst hx0
  have hne : ∀ W : World, (binOp .eql 35 (.slice none 0 cp) (.slice none 0 0)).run Tryz.prog W = .ok (.bool true) W := fun W => Lib.run_eql_slice_nil W 35 5 none 0 cp 0 0 Tryz.underlying35
  go_enter Tryz.func103, Tryz.ntmps103
  go_wp2
  go_ret
  exact ⟨none, 0, rfl, ⟨World.ownsRow_nil _ _ _ _, Nat.le_refl _, Lies.nil _ _, Below.refl _ _⟩⟩
 | some ad =>
  have hne : ∀ W : World, (binOp .eql 35 (.slice (some ad) n cp) (.slice none 0 0)).run Tryz.prog W = .ok (.bool false) W := fun W => Lib.run_eql_slice_nil W 35 5 (some ad) n cp 0 0 Tryz.underlying35
  have hown : (w.alloc (.cells #[] 5)).ownsRow w.heap.size 5 1 (.slice (some ⟨w.heap.size, 0, none⟩) 0 0) 0 [] :=
   ⟨rfl, .inr ⟨w.heap.size, 0, #[], rfl, Nat.le_refl _, by rw [heap_alloc_eq, if_pos rfl], Nat.le_refl _, by unfold maxLen; omega, rfl, rfl⟩⟩
  have hla := hl.alloc (.cells #[] 5)
  have HX := Shut.mk (And.intro hx hone)
  clear hl hx hone
  go_enter Tryz.func103, Tryz.ntmps103
  go_wp2_with (first | (at_builtin; refine wpList_append_own _ rfl _ _ 35 rfl w.heap.size 5 i0 (.int .u8 0) 1 1 Tryz.underlying35 hi hz0 hz1 hz2 rfl (by decide) _ _ _ rfl hown ad n cp xs rfl ?c0 ?c1 ?c2 ?c3 ?c4 ?c5 ?_) | fail)
  case c0 => exact HX.out.1
  case c1 => exact lies_gen hla
  case c2 => exact HX.out.2
  case c3 => unfold maxLen; omega
  case c4 => omega
  case c5 => simp
  intro v' w' hown' hgrow _
  have hb : Below w.heap.size w w' := ((Below.refl _ _).alloc (Nat.le_refl _) _).grown hgrow (by simp) fun g hg => (hown.lt g hg).1
  obtain ⟨q, c, rfl, h1, h2⟩ := own_gen hown'
  have R : Shut (w'.ownsRow w.heap.size 5 1 (.slice q n c) n xs ∧ n ≤ c ∧ Lies w' q xs ∧ Below w.heap.size w w') := ⟨hown', h2, h1, hb⟩
  clear hgrow hown hla hown' hb h1 h2
  go_wp2
  go_ret
  exact ⟨q, c, rfl, R⟩

theorem info_cloneT : (Tryz.prog.info? 149).map (fun i => (i.zero, i.size, i.bytes)) = some (some (.agg #[.int .i64 0, .int .i64 0]), 2, 16) := by kernel_rfl

set_option maxHeartbeats 1000000 in
set_option maxRecDepth 8000 in
theorem cloneT (p : Option Addr) (n cp : Nat) (xs : List Value) (w : World) (hx : xs.length = n * 2) (hone : ∀ v ∈ xs, v.oneCell' = true) (hn : n ≤ 65536) (hl : Lies w p xs) :
  Calls Tryz.prog 104 #[.slice p n cp] w fun e w' => ∃ (q : Option Addr) (c : Nat), e = .returned (.slice q n c) ∧ Shut (w'.ownsRow w.heap.size 149 2 (.slice q n c) n xs ∧ n ≤ c ∧ Lies w' q xs ∧ Below w.heap.size w w') := by
 obtain ⟨i0, hi, hz0, hz1, hz2⟩ := info_parts info_cloneT
 have hnb : n * 2 ≤ 2000000 := by omega
 cases p with
 | none =>
  have h0 : n = 0 := by
   rcases Nat.eq_zero_or_pos n with h | h
   ·exact h
   ·obtain ⟨_, _, e, _⟩ := hl 0 (xs[0]'(by omega)) (List.getElem?_eq_getElem (by omega))
    cases e
  subst h0
  have hx0 : xs = [] := List.eq_nil_of_length_eq_zero (by omega)
  subst hx0
  have hne : ∀ W : World, (binOp .eql 86 (.slice none 0 cp) (.slice none 0 0)).run Tryz.prog W = .ok (.bool true) W := fun W => Lib.run_eql_slice_nil W 86 149 none 0 cp 0 0 Tryz.underlying86
  go_enter Tryz.func104, Tryz.ntmps104
  go_wp2
  go_ret
  exact ⟨none, 0, rfl, ⟨World.ownsRow_nil _ _ _ _, Nat.le_refl _, Lies.nil _ _, Below.refl _ _⟩⟩
 | some ad =>
  have hne : ∀ W : World, (binOp .eql 86 (.slice (some ad) n cp) (.slice none 0 0)).run Tryz.prog W = .ok (.bool false) W := fun W => Lib.run_eql_slice_nil W 86 149 (some ad) n cp 0 0 Tryz.underlying86
  have hown : (w.alloc (.cells #[] 149)).ownsRow w.heap.size 149 2 (.slice (some ⟨w.heap.size, 0, none⟩) 0 0) 0 [] :=
   ⟨rfl, .inr ⟨w.heap.size, 0, #[], rfl, Nat.le_refl _, by rw [heap_alloc_eq, if_pos rfl], Nat.le_refl _, by unfold maxLen; omega, rfl, rfl⟩⟩
  have hla := hl.alloc (.cells #[] 149)
  have HX := Shut.mk (And.intro hx hone)
  clear hl hx hone
  go_enter Tryz.func104, Tryz.ntmps104
  go_wp2_with (first | (at_builtin; refine wpList_append_own _ rfl _ _ 86 rfl w.heap.size 149 i0 (.agg #[.int .i64 0, .int .i64 0]) 2 16 Tryz.underlying86 hi hz0 hz1 hz2 rfl (by decide) _ _ _ rfl hown ad n cp xs rfl ?c0 ?c1 ?c2 ?c3 ?c4 ?c5 ?_) | fail)
  case c0 => exact HX.out.1
  case c1 => exact lies_gen hla
  case c2 => exact HX.out.2
  case c3 => unfold maxLen; omega
  case c4 => omega
  case c5 => simp
  intro v' w' hown' hgrow _
  have hb : Below w.heap.size w w' := ((Below.refl _ _).alloc (Nat.le_refl _) _).grown hgrow (by simp) fun g hg => (hown.lt g hg).1
  obtain ⟨q, c, rfl, h1, h2⟩ := own_gen hown'
  have R : Shut (w'.ownsRow w.heap.size 149 2 (.slice q n c) n xs ∧ n ≤ c ∧ Lies w' q xs ∧ Below w.heap.size w w') := ⟨hown', h2, h1, hb⟩
  clear hgrow hown hla hown' hb h1 h2
  go_wp2
  go_ret
  exact ⟨q, c, rfl, R⟩

theorem info_cloneY : (Tryz.prog.info? 38).map (fun i => (i.zero, i.size, i.bytes)) = some (some (.agg #[.int .i64 0, .slice none 0 0]), 2, 32) := by kernel_rfl

set_option maxHeartbeats 1000000 in
set_option maxRecDepth 8000 in
theorem cloneY (p : Option Addr) (n cp : Nat) (xs : List Value) (w : World) (hx : xs.length = n * 2) (hone : ∀ v ∈ xs, v.oneCell' = true) (hn : n ≤ 65536) (hl : Lies w p xs) :
  Calls Tryz.prog 105 #[.slice p n cp] w fun e w' => ∃ (q : Option Addr) (c : Nat), e = .returned (.slice q n c) ∧ Shut (w'.ownsRow w.heap.size 38 2 (.slice q n c) n xs ∧ n ≤ c ∧ Lies w' q xs ∧ Below w.heap.size w w') := by
 obtain ⟨i0, hi, hz0, hz1, hz2⟩ := info_parts info_cloneY
 have hnb : n * 2 ≤ 2000000 := by omega
 cases p with
 | none =>
  have h0 : n = 0 := by
   rcases Nat.eq_zero_or_pos n with h | h
   ·exact h
   ·obtain ⟨_, _, e, _⟩ := hl 0 (xs[0]'(by omega)) (List.getElem?_eq_getElem (by omega))
    cases e
  subst h0
  have hx0 : xs = [] := List.eq_nil_of_length_eq_zero (by omega)
  subst hx0
  have hne : ∀ W : World, (binOp .eql 85 (.slice none 0 cp) (.slice none 0 0)).run Tryz.prog W = .ok (.bool true) W := fun W => Lib.run_eql_slice_nil W 85 38 none 0 cp 0 0 Tryz.underlying85
  go_enter Tryz.func105, Tryz.ntmps105
  go_wp2
  go_ret
  exact ⟨none, 0, rfl, ⟨World.ownsRow_nil _ _ _ _, Nat.le_refl _, Lies.nil _ _, Below.refl _ _⟩⟩
 | some ad =>
  have hne : ∀ W : World, (binOp .eql 85 (.slice (some ad) n cp) (.slice none 0 0)).run Tryz.prog W = .ok (.bool false) W := fun W => Lib.run_eql_slice_nil W 85 38 (some ad) n cp 0 0 Tryz.underlying85
  have hown : (w.alloc (.cells #[] 38)).ownsRow w.heap.size 38 2 (.slice (some ⟨w.heap.size, 0, none⟩) 0 0) 0 [] :=
   ⟨rfl, .inr ⟨w.heap.size, 0, #[], rfl, Nat.le_refl _, by rw [heap_alloc_eq, if_pos rfl], Nat.le_refl _, by unfold maxLen; omega, rfl, rfl⟩⟩
  have hla := hl.alloc (.cells #[] 38)
  have HX := Shut.mk (And.intro hx hone)
  clear hl hx hone
  go_enter Tryz.func105, Tryz.ntmps105
  go_wp2_with (first | (at_builtin; refine wpList_append_own _ rfl _ _ 85 rfl w.heap.size 38 i0 (.agg #[.int .i64 0, .slice none 0 0]) 2 32 Tryz.underlying85 hi hz0 hz1 hz2 rfl (by decide) _ _ _ rfl hown ad n cp xs rfl ?c0 ?c1 ?c2 ?c3 ?c4 ?c5 ?_) | fail)
  case c0 => exact HX.out.1
  case c1 => exact lies_gen hla
  case c2 => exact HX.out.2
  case c3 => unfold maxLen; omega
  case c4 => omega
  case c5 => simp
  intro v' w' hown' hgrow _
  have hb : Below w.heap.size w w' := ((Below.refl _ _).alloc (Nat.le_refl _) _).grown hgrow (by simp) fun g hg => (hown.lt g hg).1
  obtain ⟨q, c, rfl, h1, h2⟩ := own_gen hown'
  have R : Shut (w'.ownsRow w.heap.size 38 2 (.slice q n c) n xs ∧ n ≤ c ∧ Lies w' q xs ∧ Below w.heap.size w w') := ⟨hown', h2, h1, hb⟩
  clear hgrow hown hla hown' hb h1 h2
  go_wp2
  go_ret
  exact ⟨q, c, rfl, R⟩

theorem info_cloneP : (Tryz.prog.info? 88).map (fun i => (i.zero, i.size, i.bytes)) = some (some (.agg #[.int .i64 0, .int .i64 0, .int .i64 0, .int .i64 0, .int .i64 0, .int .i64 0, .bool false, .slice none 0 0, .slice none 0 0, .int .i64 0, .int .i64 0, .int .i64 0, .int .i64 0, .slice none 0 0, .bool false, .bool false]), 16, 168) := by kernel_rfl

set_option maxHeartbeats 1000000 in
set_option maxRecDepth 8000 in
theorem cloneP (p : Option Addr) (n cp : Nat) (xs : List Value) (w : World) (hx : xs.length = n * 16) (hone : ∀ v ∈ xs, v.oneCell' = true) (hn : n ≤ 65536) (hl : Lies w p xs) :
  Calls Tryz.prog 66 #[.slice p n cp] w fun e w' => ∃ (q : Option Addr) (c : Nat), e = .returned (.slice q n c) ∧ Shut (w'.ownsRow w.heap.size 88 16 (.slice q n c) n xs ∧ n ≤ c ∧ Lies w' q xs ∧ Below w.heap.size w w') := by
 obtain ⟨i0, hi, hz0, hz1, hz2⟩ := info_parts info_cloneP
 have hnb : n * 16 ≤ 2000000 := by omega
 cases p with
 | none =>
  have h0 : n = 0 := by
   rcases Nat.eq_zero_or_pos n with h | h
   ·exact h
   ·obtain ⟨_, _, e, _⟩ := hl 0 (xs[0]'(by omega)) (List.getElem?_eq_getElem (by omega))
    cases e
  subst h0
  have hx0 : xs = [] := List.eq_nil_of_length_eq_zero (by omega)
  subst hx0
  have hne : ∀ W : World, (binOp .eql 23 (.slice none 0 cp) (.slice none 0 0)).run Tryz.prog W = .ok (.bool true) W := fun W => Lib.run_eql_slice_nil W 23 88 none 0 cp 0 0 Tryz.underlying23
  go_enter Tryz.func66, Tryz.ntmps66
  go_wp2
  go_ret
  exact ⟨none, 0, rfl, ⟨World.ownsRow_nil _ _ _ _, Nat.le_refl _, Lies.nil _ _, Below.refl _ _⟩⟩
 | some ad =>
  have hne : ∀ W : World, (binOp .eql 23 (.slice (some ad) n cp) (.slice none 0 0)).run Tryz.prog W = .ok (.bool false) W := fun W => Lib.run_eql_slice_nil W 23 88 (some ad) n cp 0 0 Tryz.underlying23
  have hown : (w.alloc (.cells #[] 88)).ownsRow w.heap.size 88 16 (.slice (some ⟨w.heap.size, 0, none⟩) 0 0) 0 [] :=
   ⟨rfl, .inr ⟨w.heap.size, 0, #[], rfl, Nat.le_refl _, by rw [heap_alloc_eq, if_pos rfl], Nat.le_refl _, by unfold maxLen; omega, rfl, rfl⟩⟩
  have hla := hl.alloc (.cells #[] 88)
  have HX := Shut.mk (And.intro hx hone)
  clear hl hx hone
  go_enter Tryz.func66, Tryz.ntmps66
  go_wp2_with (first | (at_builtin; refine wpList_append_own _ rfl _ _ 23 rfl w.heap.size 88 i0 (.agg #[.int .i64 0, .int .i64 0, .int .i64 0, .int .i64 0, .int .i64 0, .int .i64 0, .bool false, .slice none 0 0, .slice none 0 0, .int .i64 0, .int .i64 0, .int .i64 0, .int .i64 0, .slice none 0 0, .bool false, .bool false]) 16 168 Tryz.underlying23 hi hz0 hz1 hz2 rfl (by decide) _ _ _ rfl hown ad n cp xs rfl ?c0 ?c1 ?c2 ?c3 ?c4 ?c5 ?_) | fail)
  case c0 => exact HX.out.1
  case c1 => exact lies_gen hla
  case c2 => exact HX.out.2
  case c3 => unfold maxLen; omega
  case c4 => omega
  case c5 => simp
  intro v' w' hown' hgrow _
  have hb : Below w.heap.size w w' := ((Below.refl _ _).alloc (Nat.le_refl _) _).grown hgrow (by simp) fun g hg => (hown.lt g hg).1
  obtain ⟨q, c, rfl, h1, h2⟩ := own_gen hown'
  have R : Shut (w'.ownsRow w.heap.size 88 16 (.slice q n c) n xs ∧ n ≤ c ∧ Lies w' q xs ∧ Below w.heap.size w w') := ⟨hown', h2, h1, hb⟩
  clear hgrow hown hla hown' hb h1 h2
  go_wp2
  go_ret
  exact ⟨q, c, rfl, R⟩

theorem cellsY {W : World} {g : Nat} {a b : Value} (h : W.heap[g]? = some (.cells #[a, b] 38 (0, 0))) : W.cell? ⟨g, 0, none⟩ = some a ∧ W.cell? ⟨g, 1, none⟩ = some b ∧ W.frozen? ⟨g, 0, none⟩ = false ∧ W.frozen? ⟨g, 1, none⟩ = false :=
 ⟨cellB h 0 _ rfl, cellB h 1 _ rfl, by simp [World.frozen?, h], by simp [World.frozen?, h]⟩

set_option maxHeartbeats 1000000 in
set_option maxRecDepth 4000 in
theorem symbolCopy_any (id : Int) (a : Option Addr) (n c : Nat) (d : List UInt8) (w : World) (hn : d.length = n) (hs : n ≤ 65536) (hl : Lies w a (bs d)) :
  Calls Tryz.prog 106 #[.agg #[.int .i64 id, .slice a n c]] w fun e w' => ∃ (q : Option Addr) (c' : Nat), e = .returned (.agg #[.int .i64 id, .slice q n c']) ∧ Shut (n ≤ c' ∧ Lies w' q (bs d) ∧ Below w.heap.size w w' ∧ ∀ b o, q = some ⟨b, o, none⟩ → w.heap.size ≤ b) := by
 obtain ⟨W, hW⟩ : ∃ W, (w.alloc (.cells #[.int .i64 id, .slice a n c] 38)).alloc (.cells #[.int .i64 0, .slice none 0 0] 38) = W := ⟨_, rfl⟩
 have hB : Below w.heap.size w W := by rw [← hW]; exact ((Below.refl _ _).alloc (Nat.le_refl _) _).alloc (by simp) _
 have hk : W.heap[w.heap.size]? = some (.cells #[.int .i64 id, .slice a n c] 38 (0, 0)) := by rw [← hW, heap_alloc_eq, if_neg (by simp), heap_alloc_eq, if_pos rfl]
 have hr : W.heap[w.heap.size + 1]? = some (.cells #[.int .i64 0, .slice none 0 0] 38 (0, 0)) := by rw [← hW, heap_alloc_eq, if_pos (by simp)]
 have hC := cloneK a n c (bs d) W (by rw [bs_length, hn]; omega) (bs_oneK d) hs (hl.below hB (Nat.le_refl _))
 obtain ⟨c0, c1, f0, f1⟩ := cellsY hk
 have HW := Shut.mk hW
 clear hW hl
 go_enter Tryz.func106, Tryz.ntmps106
 go_upto_region 1 with fail
 rw [HW.out]
 clear HW
 go_wp2_with fail
 refine hC.mono ?_
 rintro e W1 ⟨q, c', rfl, HO⟩
 have hb1 := HO.out.2.2.2
 have hF1 := hB.trans (hb1.mono hB.size)
 have hk1 := blkB hk hb1
 have hr1 := blkB hr hb1
 have hqn : Shut (∀ b o, q = some ⟨b, o, none⟩ → w.heap.size + 1 < b) := ⟨fun b o e => by have := (HO.out.1.lt b (by rw [e]; rfl)).1; have := (Array.getElem?_eq_some_iff.1 hr).1; omega⟩
 clear hC hk hr hb1 c0 c1 f0 f1
 obtain ⟨c0, c1, f0, f1⟩ := cellsY hk1
 go_upto_region 2 with fail
 obtain ⟨W2, hW2, hk2, ho2, hB2⟩ := setSecond W1 w.heap.size 38 _ _ (.slice q n c') hk1
 rw [hW2]
 have hF2 := hB2 _ _ (Nat.le_refl _) hF1
 have hr2 : W2.heap[w.heap.size + 1]? = some (.cells #[.int .i64 0, .slice none 0 0] 38 (0, 0)) := by rw [ho2 _ (by omega)]; exact hr1
 have hl2 := liesG HO.out.2.2.1 ho2 (fun b o e => by have := hqn.out b o e; omega)
 clear hW2 hB2 ho2 hk1 hr1 hF1 c0 c1 f0 f1
 obtain ⟨c0, c1, f0, f1⟩ := cellsY hk2
 obtain ⟨d0, d1, g0, g1⟩ := cellsY hr2
 go_wp2
 obtain ⟨W9, hW9, hb9, hk9, hB9⟩ := box2K W2 (w.heap.size + 1) 38 _ _ (.int .i64 id) (.slice q n c') hr2
 rw [hW9]
 have R : Shut (n ≤ c' ∧ Lies W9 q (bs d) ∧ Below w.heap.size w W9 ∧ ∀ b o, q = some ⟨b, o, none⟩ → w.heap.size ≤ b) := ⟨HO.out.2.1, liesG hl2 hk9 (fun b o e => by have := hqn.out b o e; omega), hB9 _ _ (by omega) hF2, fun b o e => by have := hqn.out b o e; omega⟩
 clear hW9 hB9 hk9 c0 c1 f0 f1 d0 d1 g0 g1
 obtain ⟨c0, c1, f0, f1⟩ := cellsY hb9
 refine bodyPost_ret (v := .agg #[.int .i64 id, .slice q n c']) (by simp [results, Tryz.results106, go_sem, c0, c1]) rfl ?_
 exact ⟨q, c', rfl, R⟩

structure HeadAt (w : World) (g : Nat) (h : Hd) : Prop where
 a0 : w.cell? ⟨g, 0, none⟩ = some (.int .i64 h.F)
 a1 : w.cell? ⟨g, 1, none⟩ = some (.int .i64 h.Q)
 a2 : w.cell? ⟨g, 2, none⟩ = some (.int .i64 h.T)
 a3 : w.cell? ⟨g, 3, none⟩ = some (.int .i64 h.L)
 a4 : w.cell? ⟨g, 4, none⟩ = some (.int .i64 h.B)
 a5 : w.cell? ⟨g, 5, none⟩ = some (.int .i64 h.K)

theorem HeadAt.below {w w' : World} {g : Nat} {h : Hd} (a : HeadAt w g h) (hb : Below w.heap.size w w') : HeadAt w' g h := ⟨cellW a.a0 hb, cellW a.a1 hb, cellW a.a2 hb, cellW a.a3 hb, cellW a.a4 hb, cellW a.a5 hb⟩

theorem ins1_any (Y : MKp) (h : Hd) (g : Nat) (w : World) (hg : HeadAt w g h) :
  Calls Tryz.prog 129 #[.agg #[.int .i64 Y.k.h.F, .int .i64 Y.k.h.Q, .int .i64 Y.k.h.T, .int .i64 Y.k.h.L, .int .i64 Y.k.h.B, .int .i64 Y.k.h.K, .bool Y.k.own, .slice Y.ca Y.k.c.length Y.cc, .slice Y.ya Y.ys.length Y.yc, .int .i64 Y.k.sh, .int .i64 Y.k.gv, .int .i64 Y.k.tw, .int .i64 Y.k.tr, .slice Y.ta Y.k.tk.length Y.tc, .bool Y.k.dl, .bool Y.k.pg], .pointer (some ⟨g, 0, none⟩)] w fun e w' => e = .returned (.bool (h.ahead Y.k.h)) ∧ Below w.heap.size w w' := by
 obtain ⟨W, hW⟩ : ∃ W, w.alloc (.cells #[.int .i64 Y.k.h.F, .int .i64 Y.k.h.Q, .int .i64 Y.k.h.T, .int .i64 Y.k.h.L, .int .i64 Y.k.h.B, .int .i64 Y.k.h.K, .bool Y.k.own, .slice Y.ca Y.k.c.length Y.cc, .slice Y.ya Y.ys.length Y.yc, .int .i64 Y.k.sh, .int .i64 Y.k.gv, .int .i64 Y.k.tw, .int .i64 Y.k.tr, .slice Y.ta Y.k.tk.length Y.tc, .bool Y.k.dl, .bool Y.k.pg] 88) = W := ⟨_, rfl⟩
 have hB : Below w.heap.size w W := by rw [← hW]; exact (Below.refl _ _).alloc (Nat.le_refl _) _
 have hk : W.heap[w.heap.size]? = some (.cells #[.int .i64 Y.k.h.F, .int .i64 Y.k.h.Q, .int .i64 Y.k.h.T, .int .i64 Y.k.h.L, .int .i64 Y.k.h.B, .int .i64 Y.k.h.K, .bool Y.k.own, .slice Y.ca Y.k.c.length Y.cc, .slice Y.ya Y.ys.length Y.yc, .int .i64 Y.k.sh, .int .i64 Y.k.gv, .int .i64 Y.k.tw, .int .i64 Y.k.tr, .slice Y.ta Y.k.tk.length Y.tc, .bool Y.k.dl, .bool Y.k.pg] 88 (0, 0)) := by rw [← hW, heap_alloc_eq, if_pos rfl]
 have q0 : W.cell? ⟨w.heap.size, 0, none⟩ = some (.int .i64 Y.k.h.F) := cellB hk 0 _ rfl
 have q1 : W.cell? ⟨w.heap.size, 1, none⟩ = some (.int .i64 Y.k.h.Q) := cellB hk 1 _ rfl
 have q2 : W.cell? ⟨w.heap.size, 2, none⟩ = some (.int .i64 Y.k.h.T) := cellB hk 2 _ rfl
 have q3 : W.cell? ⟨w.heap.size, 3, none⟩ = some (.int .i64 Y.k.h.L) := cellB hk 3 _ rfl
 have q4 : W.cell? ⟨w.heap.size, 4, none⟩ = some (.int .i64 Y.k.h.B) := cellB hk 4 _ rfl
 have q5 : W.cell? ⟨w.heap.size, 5, none⟩ = some (.int .i64 Y.k.h.K) := cellB hk 5 _ rfl
 obtain ⟨a0, a1, a2, a3, a4, a5⟩ := hg.below hB
 have hC := ahead_any h Y.k.h W
 simp only [Hd.val] at hC
 obtain ⟨R, hR⟩ : ∃ R, h.ahead Y.k.h = R := ⟨_, rfl⟩
 rw [hR] at hC ⊢
 have HW := Shut.mk hW
 clear hR hW hk hg
 go_enter Tryz.func129, Tryz.ntmps129
 go_upto_region 1 with fail
 rw [HW.out]
 clear HW
 go_wp2_with fail
 refine hC.mono ?_
 rintro e w2 ⟨rfl, hb⟩
 have hB2 := hB.trans (hb.mono hB.size)
 clear hC
 go_wp2
 go_ret
 exact ⟨rfl, hB2⟩

theorem entersInsK : ∀ args w, (callFunc 129 args).run Tryz.prog w = .ok (.enter 129 args) w := enters_of Tryz.func129 (by kernel_rfl) rfl

theorem tick1_any (Y : MKp) (t : Int) (g : Nat) (w : World) (hg : w.cell? ⟨g, 0, none⟩ = some (.int .i64 t)) :
  Calls Tryz.prog 109 #[.agg #[.int .i64 Y.k.h.F, .int .i64 Y.k.h.Q, .int .i64 Y.k.h.T, .int .i64 Y.k.h.L, .int .i64 Y.k.h.B, .int .i64 Y.k.h.K, .bool Y.k.own, .slice Y.ca Y.k.c.length Y.cc, .slice Y.ya Y.ys.length Y.yc, .int .i64 Y.k.sh, .int .i64 Y.k.gv, .int .i64 Y.k.tw, .int .i64 Y.k.tr, .slice Y.ta Y.k.tk.length Y.tc, .bool Y.k.dl, .bool Y.k.pg], .pointer (some ⟨g, 0, none⟩)] w fun e w' => e = .returned (.bool (decide (Y.k.h.L ≤ t))) ∧ Below w.heap.size w w' := by
 obtain ⟨W, hW⟩ : ∃ W, w.alloc (.cells #[.int .i64 Y.k.h.F, .int .i64 Y.k.h.Q, .int .i64 Y.k.h.T, .int .i64 Y.k.h.L, .int .i64 Y.k.h.B, .int .i64 Y.k.h.K, .bool Y.k.own, .slice Y.ca Y.k.c.length Y.cc, .slice Y.ya Y.ys.length Y.yc, .int .i64 Y.k.sh, .int .i64 Y.k.gv, .int .i64 Y.k.tw, .int .i64 Y.k.tr, .slice Y.ta Y.k.tk.length Y.tc, .bool Y.k.dl, .bool Y.k.pg] 88) = W := ⟨_, rfl⟩
 have hB : Below w.heap.size w W := by rw [← hW]; exact (Below.refl _ _).alloc (Nat.le_refl _) _
 have hk : W.heap[w.heap.size]? = some (.cells #[.int .i64 Y.k.h.F, .int .i64 Y.k.h.Q, .int .i64 Y.k.h.T, .int .i64 Y.k.h.L, .int .i64 Y.k.h.B, .int .i64 Y.k.h.K, .bool Y.k.own, .slice Y.ca Y.k.c.length Y.cc, .slice Y.ya Y.ys.length Y.yc, .int .i64 Y.k.sh, .int .i64 Y.k.gv, .int .i64 Y.k.tw, .int .i64 Y.k.tr, .slice Y.ta Y.k.tk.length Y.tc, .bool Y.k.dl, .bool Y.k.pg] 88 (0, 0)) := by rw [← hW, heap_alloc_eq, if_pos rfl]
 have q3 : W.cell? ⟨w.heap.size, 3, none⟩ = some (.int .i64 Y.k.h.L) := cellB hk 3 _ rfl
 have z1 := cellW hg hB
 have HW := Shut.mk hW
 clear hW hk hg
 go_enter Tryz.func109, Tryz.ntmps109
 go_upto_region 1 with fail
 rw [HW.out]
 clear HW
 go_wp2
 go_ret
 exact ⟨rfl, hB⟩

theorem entersTick1 : ∀ args w, (callFunc 109 args).run Tryz.prog w = .ok (.enter 109 args) w := enters_of Tryz.func109 (by kernel_rfl) rfl

theorem placeOf_idx (l : List MKp) (h : Hd) : placeOf (l.map MKp.k) h = if idxP (fun Y : MKp => h.ahead Y.k.h) l < 0 then l.length else (idxP (fun Y : MKp => h.ahead Y.k.h) l).toNat := by
 rw [idxP_findIdx, placeOf, List.findIdx?_map, List.length_map]
 cases e : l.findIdx? ((fun o : Kp => h.ahead o.h) ∘ MKp.k) with
 | none =>
  have e2 : l.findIdx? (fun Y : MKp => h.ahead Y.k.h) = none := e
  rw [e2]
  rfl
 | some i =>
  have e2 : l.findIdx? (fun Y : MKp => h.ahead Y.k.h) = some i := e
  rw [e2]
  simp only [Option.getD_some, Int.toNat_natCast]
  rw [if_neg (by omega)]

set_option maxHeartbeats 2000000 in
set_option maxRecDepth 4000 in
theorem indexIns (p : Option Addr) (cp : Nat) (l : List MKp) (h : Hd) (g : Nat) (w : World) (hl : Lies w p (kpCells l)) (hm : l.length ≤ maxLen) (hg : HeadAt w g h) :
  Calls Tryz.prog 57 #[.slice p l.length cp, .func (.func 129) #[] #[.pointer (some ⟨g, 0, none⟩)]] w fun e w' => e = .returned (.int .i64 (idxP (fun Y : MKp => h.ahead Y.k.h) l)) ∧ Below w.heap.size w w' := by
 have eg := entersInsK
 obtain ⟨D, hD⟩ : ∃ D : MKp → Bool, (fun Y : MKp => h.ahead Y.k.h) = D := ⟨_, rfl⟩
 rw [hD]
 obtain ⟨n, hn⟩ : ∃ n, l.length = n := ⟨_, rfl⟩
 have HX := Shut.mk (And.intro hn (And.intro hl (And.intro hD hg)))
 rw [hn] at hm ⊢
 unfold maxLen at hm
 clear hl hn hD hg
 go_enter Tryz.func57, Tryz.ntmps57
 go_wp2
 go_loopw [8] (fun i wr => ∃ q : Nat, q ≤ n ∧ i = .int .i64 q ∧ Shut (Below w.heap.size w wr ∧ ∀ j (hj : j < l.length), j < q → D l[j] = false)) (fun i _ => n - (intOf i).toNat)
 case atStart => exact ⟨0, Nat.zero_le _, rfl, ⟨Below.refl _ _, fun j _ hj => by omega⟩⟩
 case round =>
  obtain ⟨q, hq, rfl, HN⟩ := hrel
  by_cases hlt : q < n
  ·have hqN : q < l.length := by rw [HX.out.1]; exact hlt
   have hbr := HN.out.1
   have hlr := HX.out.2.1.below hbr (Nat.le_refl _)
   obtain ⟨b1, o1, rfl⟩ := hlr.some (k := 16 * q) (by rw [kpCells_length]; omega)
   have h1 : Lies wr (some ⟨b1, o1, none⟩) (kpCells l) ∧ l[q]? = some l[q] := ⟨hlr, List.getElem?_eq_getElem hqN⟩
   have hV : D l[q] = h.ahead l[q].k.h := by rw [← HX.out.2.2.1]
   have HT : Shut (D l[q] = true → idxP D l = q) := ⟨fun h => idxP_at hqN h fun j hj => HN.out.2 j (by omega) hj⟩
   have HF : Shut (D l[q] = false → ∀ j (hj : j < l.length), j < q + 1 → D l[j] = false) := ⟨fun h j hj hjq => by
    by_cases e : j = q
    ·subst e; exact h
    ·exact HN.out.2 j hj (by omega)⟩
   have hC := ins1_any l[q] h g wr (HX.out.2.2.2.below hbr)
   rw [← hV] at hC
   generalize D l[q] = b at *
   generalize l[q] = Y at *
   have t0 : wr.cell? ⟨b1, o1 + q * 16, none⟩ = some (.int .i64 Y.k.h.F) := kp_cell h1 0 rfl
   have t1 : wr.cell? ⟨b1, o1 + q * 16 + 1, none⟩ = some (.int .i64 Y.k.h.Q) := kp_cell h1 1 rfl
   have t2 : wr.cell? ⟨b1, o1 + q * 16 + 2, none⟩ = some (.int .i64 Y.k.h.T) := kp_cell h1 2 rfl
   have t3 : wr.cell? ⟨b1, o1 + q * 16 + 3, none⟩ = some (.int .i64 Y.k.h.L) := kp_cell h1 3 rfl
   have t4 : wr.cell? ⟨b1, o1 + q * 16 + 4, none⟩ = some (.int .i64 Y.k.h.B) := kp_cell h1 4 rfl
   have t5 : wr.cell? ⟨b1, o1 + q * 16 + 5, none⟩ = some (.int .i64 Y.k.h.K) := kp_cell h1 5 rfl
   have t6 : wr.cell? ⟨b1, o1 + q * 16 + 6, none⟩ = some (.bool Y.k.own) := kp_cell h1 6 rfl
   have t7 : wr.cell? ⟨b1, o1 + q * 16 + 7, none⟩ = some (.slice Y.ca Y.k.c.length Y.cc) := kp_cell h1 7 rfl
   have t8 : wr.cell? ⟨b1, o1 + q * 16 + 8, none⟩ = some (.slice Y.ya Y.ys.length Y.yc) := kp_cell h1 8 rfl
   have t9 : wr.cell? ⟨b1, o1 + q * 16 + 9, none⟩ = some (.int .i64 Y.k.sh) := kp_cell h1 9 rfl
   have t10 : wr.cell? ⟨b1, o1 + q * 16 + 10, none⟩ = some (.int .i64 Y.k.gv) := kp_cell h1 10 rfl
   have t11 : wr.cell? ⟨b1, o1 + q * 16 + 11, none⟩ = some (.int .i64 Y.k.tw) := kp_cell h1 11 rfl
   have t12 : wr.cell? ⟨b1, o1 + q * 16 + 12, none⟩ = some (.int .i64 Y.k.tr) := kp_cell h1 12 rfl
   have t13 : wr.cell? ⟨b1, o1 + q * 16 + 13, none⟩ = some (.slice Y.ta Y.k.tk.length Y.tc) := kp_cell h1 13 rfl
   have t14 : wr.cell? ⟨b1, o1 + q * 16 + 14, none⟩ = some (.bool Y.k.dl) := kp_cell h1 14 rfl
   have t15 : wr.cell? ⟨b1, o1 + q * 16 + 15, none⟩ = some (.bool Y.k.pg) := kp_cell h1 15 rfl
   clear HN hV hlr h1
   go_wp2_with fail
   refine hC.mono ?_
   rintro e w2 ⟨rfl, hb⟩
   have hB2 := hbr.trans (hb.mono hbr.size)
   clear hC hb t0 t1 t2 t3 t4 t5 t6 t7 t8 t9 t10 t11 t12 t13 t14 t15
   cases b
   ·have HN2 := Shut.mk (And.intro hB2 (HF.out rfl))
    clear HF HT hB2
    go_wp2
    go_roundw
    case rel => exact ⟨q + 1, by omega, by go_num, HN2⟩
    case measure => simp [intOf]; omega
   ·have HR := Shut.mk (HT.out rfl)
    clear HF HT
    go_wp2
    go_ret
    exact ⟨ret_int HR.out.symm, hB2⟩
  ·have HR : Shut (idxP D l = -1) := ⟨idxP_none fun j hj => HN.out.2 j hj (by have := HX.out.1; omega)⟩
   have hbr := HN.out.1
   clear HN
   go_wp2
   go_ret
   exact ⟨ret_int HR.out.symm, hbr⟩

abbrev setRun (W : World) (g o : Nat) (vs : List Value) : World := W.setCells g o vs

theorem setRun_far {g k : Nat} (hk : k ≠ g) : ∀ (vs : List Value) (W : World) (o : Nat), (setRun W g o vs).heap[k]? = W.heap[k]?
 | [], W, o => rfl
 | v :: r, W, o => by
  exact (setRun_far hk r _ _).trans (setCell_far _ _ hk)

theorem setRun_below {g B : Nat} {w : World} (hB : B ≤ g) : ∀ (vs : List Value) (W : World) (o : Nat), Below B w W → Below B w (setRun W g o vs)
 | [], W, o, h => h
 | v :: r, W, o, h => by
  exact setRun_below hB r _ _ (h.setCell (p := ⟨g, o, none⟩) hB _)

theorem setRun_blk {g : Nat} {T : TypeId} {f : Nat × Nat} : ∀ (vs : List Value) (W : World) (o : Nat) (c : Array Value), W.heap[g]? = some (.cells c T f) → o + vs.length ≤ c.size →
  ∃ c' : Array Value, (setRun W g o vs).heap[g]? = some (.cells c' T f) ∧ c'.toList = c.toList.take o ++ vs ++ c.toList.drop (o + vs.length) ∧ c'.size = c.size
 | [], W, o, c, h, hl => ⟨c, h, by simp, rfl⟩
 | v :: r, W, o, c, h, hl => by
  have hl' : o + 1 + r.length ≤ c.size := by simpa [Nat.add_assoc, Nat.add_comm 1] using hl
  obtain ⟨c', h1, h2, h3⟩ := setRun_blk r _ (o + 1) _ (setCell_blk h o v) (by simpa using hl')
  refine ⟨c', h1, ?_, by simpa using h3⟩
  rw [h2]
  have e1 : (c.setIfInBounds o v).toList = c.toList.set o v := by simp
  rw [e1]
  have ho : o < c.toList.length := by simp; omega
  rw [List.set_eq_take_append_cons_drop, if_pos ho]
  have lt : (c.toList.take o).length = o := by rw [List.length_take]; omega
  rw [List.take_append, List.drop_append, lt]
  have e2 : o + 1 - o = 1 := by omega
  have e3 : o + 1 + r.length - o = r.length + 1 := by omega
  rw [e2, e3, List.take_succ_cons, List.take_zero, List.drop_succ_cons, List.drop_drop, List.take_of_length_le (by rw [lt]; omega), List.drop_eq_nil_of_le (by rw [lt]; omega)]
  simp [Nat.add_assoc, Nat.add_comm 1]

theorem own_setRun {w : World} {B n es g cap : Nat} {e : TypeId} {xs : List Value} (h : w.ownsRow B e es (.slice (some ⟨g, 0, none⟩) n cap) n xs) (vs : List Value) (o : Nat) (hn : o + vs.length ≤ n * es) :
  (setRun w g o vs).ownsRow B e es (.slice (some ⟨g, 0, none⟩) n cap) n (xs.take o ++ vs ++ xs.drop (o + vs.length)) := by
 have hx := h.1
 rcases h.2 with ⟨h0, _⟩ | ⟨g', cap', cur, h0, hg, hc, h1, h2, h3, htake⟩
 ·cases h0
 ·simp only [Value.slice.injEq, Option.some.injEq, Addr.mk.injEq] at h0
  obtain ⟨⟨rfl, _⟩, _, rfl⟩ := h0
  have hcap : n * es ≤ cap * es := Nat.mul_le_mul_right _ h1
  obtain ⟨c', e1, e2, e3⟩ := setRun_blk vs w o cur hc (by omega)
  refine ⟨?_, .inr ⟨g, cap, c', rfl, hg, e1, h1, h2, by omega, ?_⟩⟩
  ·simp only [List.length_append, List.length_take, List.length_drop]
   omega
  ·rw [e2, ← htake]
   have l1 : (cur.toList.take o).length = o := by rw [List.length_take]; simp; omega
   have e4 : min (n * es) o = o := by omega
   have e6 : min o (n * es) = o := by omega
   have e5 : o + vs.length + (n * es - o - vs.length) = n * es := by omega
   rw [List.append_assoc, List.take_append, l1, List.take_append, List.take_take, e4, List.take_of_length_le (l := vs) (by omega), List.take_take, e6, List.append_assoc, List.take_drop, e5]

theorem flat_set {α : Type} (f : α → List Value) (k : Nat) (hk : ∀ y, (f y).length = k) : ∀ (L : List α) (q : Nat) (x : α), q < L.length → (L.set q x).flatMap f = (L.flatMap f).take (k * q) ++ f x ++ (L.flatMap f).drop (k * q + (f x).length)
 | [], q, x, h => by simp at h
 | z :: L, 0, x, h => by
  rw [List.set_cons_zero, List.flatMap_cons, List.flatMap_cons, Nat.mul_zero, List.take_zero, List.nil_append, Nat.zero_add, hk x, List.drop_append, hk z, Nat.sub_self, List.drop_zero, List.drop_eq_nil_of_le (by rw [hk z]; omega), List.nil_append]
 | z :: L, q + 1, x, h => by
  have ih := flat_set f k hk L q x (by simpa using h)
  rw [List.set_cons_succ, List.flatMap_cons, List.flatMap_cons, ih, List.take_append, List.drop_append, hk z, Nat.mul_succ]
  have e1 : k * q + k - k = k * q := by omega
  have e2 : k * q + k + (f x).length - k = k * q + (f x).length := by omega
  have e3 : (f z).drop (k * q + k + (f x).length) = [] := List.drop_eq_nil_of_le (by rw [hk z]; omega)
  rw [e1, e2, List.take_of_length_le (l := f z) (by rw [hk z]; omega), e3, List.nil_append]
  simp

theorem set16 (W : World) (g a : Nat) (v0 v1 v2 v3 v4 v5 v6 v7 v8 v9 v10 v11 v12 v13 v14 v15 : Value) : (((((((((((((((W.setCell ⟨g, a, none⟩ v0).setCell ⟨g, a + 1, none⟩ v1).setCell ⟨g, a + 2, none⟩ v2).setCell ⟨g, a + 3, none⟩ v3).setCell ⟨g, a + 4, none⟩ v4).setCell ⟨g, a + 5, none⟩ v5).setCell ⟨g, a + 6, none⟩ v6).setCell ⟨g, a + 7, none⟩ v7).setCell ⟨g, a + 8, none⟩ v8).setCell ⟨g, a + 9, none⟩ v9).setCell ⟨g, a + 10, none⟩ v10).setCell ⟨g, a + 11, none⟩ v11).setCell ⟨g, a + 12, none⟩ v12).setCell ⟨g, a + 13, none⟩ v13).setCell ⟨g, a + 14, none⟩ v14).setCell ⟨g, a + 15, none⟩ v15 = setRun W g a [v0, v1, v2, v3, v4, v5, v6, v7, v8, v9, v10, v11, v12, v13, v14, v15] := rfl

end Go.Proofs.YtakkajjoeimkdaaGreatDoor

namespace Go.Proofs.YtakkajjoeimkdaaGreatDoor
open Go.RowKit
set_option linter.unusedVariables false
set_option linter.unusedSimpArgs false
attribute [local go_sem ↓] Go.wp_at_zero Go.wp_at_succ

theorem box16 (W : World) (g : Nat) (T : TypeId) (a0 a1 a2 a3 a4 a5 a6 a7 a8 a9 a10 a11 a12 a13 a14 a15 v0 v1 v2 v3 v4 v5 v6 v7 v8 v9 v10 v11 v12 v13 v14 v15 : Value) (hb : W.heap[g]? = some (.cells #[a0, a1, a2, a3, a4, a5, a6, a7, a8, a9, a10, a11, a12, a13, a14, a15] T (0, 0))) :
  ∃ W9, ((((((((((((((((W.setCell ⟨g, 0, none⟩ v0).setCell ⟨g, 1, none⟩ v1).setCell ⟨g, 2, none⟩ v2).setCell ⟨g, 3, none⟩ v3).setCell ⟨g, 4, none⟩ v4).setCell ⟨g, 5, none⟩ v5).setCell ⟨g, 6, none⟩ v6).setCell ⟨g, 7, none⟩ v7).setCell ⟨g, 8, none⟩ v8).setCell ⟨g, 9, none⟩ v9).setCell ⟨g, 10, none⟩ v10).setCell ⟨g, 11, none⟩ v11).setCell ⟨g, 12, none⟩ v12).setCell ⟨g, 13, none⟩ v13).setCell ⟨g, 14, none⟩ v14).setCell ⟨g, 15, none⟩ v15) = W9 ∧ W9.heap[g]? = some (.cells #[v0, v1, v2, v3, v4, v5, v6, v7, v8, v9, v10, v11, v12, v13, v14, v15] T (0, 0)) ∧ (∀ k, k ≠ g → W9.heap[k]? = W.heap[k]?) ∧ (∀ B w, B ≤ g → Below B w W → Below B w W9) := by
 refine ⟨_, rfl, ?_, ?_, ?_⟩
 ·have h := setCell_blk (setCell_blk (setCell_blk (setCell_blk (setCell_blk (setCell_blk (setCell_blk (setCell_blk (setCell_blk (setCell_blk (setCell_blk (setCell_blk (setCell_blk (setCell_blk (setCell_blk (setCell_blk (hb) 0 v0) 1 v1) 2 v2) 3 v3) 4 v4) 5 v5) 6 v6) 7 v7) 8 v8) 9 v9) 10 v10) 11 v11) 12 v12) 13 v13) 14 v14) 15 v15
  simpa using h
 ·intro k hk
  rw [setCell_far _ _ hk, setCell_far _ _ hk, setCell_far _ _ hk, setCell_far _ _ hk, setCell_far _ _ hk, setCell_far _ _ hk, setCell_far _ _ hk, setCell_far _ _ hk, setCell_far _ _ hk, setCell_far _ _ hk, setCell_far _ _ hk, setCell_far _ _ hk, setCell_far _ _ hk, setCell_far _ _ hk, setCell_far _ _ hk, setCell_far _ _ hk]
 ·intro B w hB h
  exact ((((((((((((((((h.setCell (p := ⟨g, 0, none⟩) hB _).setCell (p := ⟨g, 1, none⟩) hB _).setCell (p := ⟨g, 2, none⟩) hB _).setCell (p := ⟨g, 3, none⟩) hB _).setCell (p := ⟨g, 4, none⟩) hB _).setCell (p := ⟨g, 5, none⟩) hB _).setCell (p := ⟨g, 6, none⟩) hB _).setCell (p := ⟨g, 7, none⟩) hB _).setCell (p := ⟨g, 8, none⟩) hB _).setCell (p := ⟨g, 9, none⟩) hB _).setCell (p := ⟨g, 10, none⟩) hB _).setCell (p := ⟨g, 11, none⟩) hB _).setCell (p := ⟨g, 12, none⟩) hB _).setCell (p := ⟨g, 13, none⟩) hB _).setCell (p := ⟨g, 14, none⟩) hB _).setCell (p := ⟨g, 15, none⟩) hB _)

theorem kpBox {W : World} {g : Nat} {c : List Value} (h : W.heap[g]? = some (.cells c.toArray 88 (0, 0))) (j : Nat) (v : Value) (hv : c[j]? = some v) : W.cell? ⟨g, j, none⟩ = some v ∧ W.frozen? ⟨g, j, none⟩ = false :=
 ⟨cellB h j v (by simpa using hv), by simp [World.frozen?, h]⟩

theorem own_at {w w' : World} {B es n : Nat} {e : TypeId} {v : Value} {xs : List Value} (h : w.ownsRow B e es v n xs) (hk : ∀ g, v.ownBlock = some g → w'.heap[g]? = w.heap[g]?) : w'.ownsRow B e es v n xs := by
 refine ⟨h.1, ?_⟩
 rcases h.2 with h0 | ⟨g, cap, cur, rfl, h1, h2, h3⟩
 ·exact .inl h0
 ·exact .inr ⟨g, cap, cur, rfl, h1, (hk g rfl).trans h2, h3⟩

theorem own_low {w : World} {B B' es n : Nat} {e : TypeId} {v : Value} {xs : List Value} (h : w.ownsRow B e es v n xs) (hB : B' ≤ B) : w.ownsRow B' e es v n xs := by
 refine ⟨h.1, ?_⟩
 rcases h.2 with h0 | ⟨g, cap, cur, rfl, h1, h2, h3⟩
 ·exact .inl h0
 ·exact .inr ⟨g, cap, cur, rfl, Nat.le_trans hB h1, h2, h3⟩

def OffY (g : Nat) (y : MSym) : Prop := y.d ≠ [] → ∀ b o, y.a = some ⟨b, o, none⟩ → b ≠ g

theorem symIn_far {w w' : World} {y : MSym} {g : Nat} (h : SymIn w y) (ho : OffY g y) (hk : ∀ k, k ≠ g → w'.heap[k]? = w.heap[k]?) : SymIn w' y := by
 refine ⟨?_, h.2⟩
 by_cases hd : y.d = []
 ·intro k u hu
  rw [hd] at hu
  simp [bs] at hu
 ·exact liesG h.1 hk (ho hd)

theorem symIn_lt {w : World} {y : MSym} (h : SymIn w y) (hd : y.d ≠ []) : ∀ b o, y.a = some ⟨b, o, none⟩ → b < w.heap.size := by
 intro b o e
 have h1 := h.1.lt e 0 (by rw [bs_length]; exact List.length_pos_iff.2 hd)
 have := World.block_lt_of_cell? w _ h1
 simpa using this

theorem symCells_set (L : List MSym) (q : Nat) (x : MSym) (h : q < L.length) : symCells (L.set q x) = (symCells L).take (2 * q) ++ [.int .i64 x.id, x.dv] ++ (symCells L).drop (2 * q + 2) :=
 flat_set (fun y : MSym => [.int .i64 y.id, y.dv]) 2 (fun _ => rfl) L q x h

theorem symCells_one (l : List MSym) : ∀ v ∈ symCells l, v.oneCell' = true := by
 intro v hv
 obtain ⟨y, _, hy⟩ := List.mem_flatMap.1 hv
 exact List.all_eq_true.1 (show ([.int .i64 y.id, y.dv] : List Value).all (fun v => v.oneCell') = true from rfl) v hy

theorem tkCells_one (l : List (Int × Int)) : ∀ v ∈ tkCells l, v.oneCell' = true := by
 intro v hv
 obtain ⟨y, _, hy⟩ := List.mem_flatMap.1 hv
 exact List.all_eq_true.1 (show ([.int .i64 y.1, .int .i64 y.2] : List Value).all (fun v => v.oneCell') = true from rfl) v hy

def CopyY (B : Nat) (V wr : World) (g n cp : Nat) (l : List LSym) (q : Nat) : Prop :=
 ∃ L : List MSym, L.map MSym.says = l ∧ wr.ownsRow B 38 2 (.slice (some ⟨g, 0, none⟩) n cp) n (symCells L) ∧ (∀ y ∈ L, SymIn wr y ∧ OffY g y) ∧
  (∀ i y, L[i]? = some y → i < q → y.d.length ≤ y.c ∧ ∀ b o, y.a = some ⟨b, o, none⟩ → B ≤ b ∧ b ≠ g) ∧ Below B V wr

theorem CopyY.step {V wr W2 : World} {B g n cp q : Nat} {l : List LSym} {L : List MSym} {y x : MSym} {B1 : Nat} (hL : L.map MSym.says = l) (hown : wr.ownsRow B 38 2 (.slice (some ⟨g, 0, none⟩) n cp) n (symCells L)) (hall : ∀ y ∈ L, SymIn wr y ∧ OffY g y)
  (hnew : ∀ i y, L[i]? = some y → i < q → y.d.length ≤ y.c ∧ ∀ b o, y.a = some ⟨b, o, none⟩ → B ≤ b ∧ b ≠ g) (hbr : Below B V wr) (hq : L[q]? = some y) (hb : Below wr.heap.size wr W2) (hB1 : wr.heap.size ≤ B1) (hx1 : x.says = y.says) (hx2 : SymIn W2 x) (hx3 : x.d.length ≤ x.c) (hx4 : ∀ b o, x.a = some ⟨b, o, none⟩ → B1 ≤ b) (hqn : q < n) :
  CopyY B V (setRun W2 g (2 * q) [.int .i64 x.id, x.dv]) g n cp l (q + 1) := by
 have own2 := ownB hown hb
 have hln : L.length = n := by have := hown.1; rw [symCells_length] at this; omega
 have hgl : g < wr.heap.size := (hown.lt g rfl).2
 have hBg : B ≤ g := (hown.lt g rfl).1
 have offx : OffY g x := fun _ b o e => by have := hx4 b o e; omega
 refine ⟨L.set q x, ?_, ?_, ?_, ?_, ?_⟩
 ·rw [← hL, List.map_set, hx1]
  obtain ⟨hlt, rfl⟩ := List.getElem?_eq_some_iff.1 hq
  have : L[q].says = (L.map MSym.says)[q]'(by simpa using hlt) := by simp
  rw [this, List.set_getElem_self]
 ·rw [symCells_set L q x (by omega)]
  exact own_setRun own2 _ (2 * q) (by show 2 * q + 2 ≤ n * 2; omega)
 ·intro z hz
  rcases List.mem_or_eq_of_mem_set hz with hz | rfl
  ·have h1 := hall z hz
   exact ⟨symIn_far (h1.1.below hb) h1.2 (fun k hk => setRun_far hk _ _ _), h1.2⟩
  ·exact ⟨symIn_far hx2 offx (fun k hk => setRun_far hk _ _ _), offx⟩
 ·intro i z hz hi
  rw [List.getElem?_set] at hz
  split at hz
  ·split at hz
   ·obtain rfl := Option.some.inj hz
    exact ⟨hx3, fun b o e => by have := hx4 b o e; omega⟩
   ·cases hz
  ·exact hnew i z hz (by omega)
 ·exact setRun_below hBg _ _ _ (hbr.trans (hb.mono (by omega)))

end Go.Proofs.YtakkajjoeimkdaaGreatDoor
