/-
  Chapter 10: WayBack's walk.
-/
import Derived.Test.YthhhlampphlmgaaPart10
import Derived.Deep.RegionHeld3
namespace Go.Proofs.Ythhhlampphlmgaa
open Go.RowKit
set_option linter.unusedVariables false
set_option linter.unusedSimpArgs false

theorem firstBad_app : ∀ {l : List Ml} {m : Ml}, firstBad l = 0 → m.code = 0 → firstBad (l ++ [m]) = 0
  | [], m, _, h => by rw [List.nil_append, firstBad, if_neg (by simp [h])]; rfl
  | x :: l, m, hl, h => by
    rw [firstBad] at hl
    split at hl
    · rename_i h1; exact absurd hl h1
    · rename_i h1
      rw [List.cons_append, firstBad, if_neg h1]
      exact firstBad_app hl h

theorem wy_app {l : List Ml} {m : Ml} (h : wyCode l = 0) (hm : m.code = 0) (hl : l.length < 40) : wyCode (l ++ [m]) = 0 := by
  have h2 := (wy_zero h).2
  unfold wyCode at h ⊢
  rw [if_neg (by have := wy_zero (l := l); omega)] at h
  rw [if_neg (by rw [List.length_append, List.length_singleton]; omega)]
  exact firstBad_app h hm

theorem send_zero {l : List Ml} {m : Ml} (h : sendCode l m = 0) : wyCode l = 0 ∧ m.code = 0 := by
  unfold sendCode at h
  split at h
  · rename_i h1; exact absurd h h1
  · rename_i h1
    exact ⟨by simpa using h1, h⟩

/-- each of a new list may be asked -/
theorem ListNew.okAll {B : Nat} {w : World} {l : List Ml} {L : List MMl} {p : Option Addr} {cp : Nat} (h : ListNew B w l L p cp) (hl : ∀ m ∈ l, m.ints ∧ m.d.length ≤ maxLen) : ∀ x ∈ L, MailIn w x ∧ MlOk x := fun x hx =>
  ⟨(h.2.2 x hx).1, hl x.m (by rw [← h.1]; exact List.mem_map.2 ⟨x, hx, rfl⟩)⟩

theorem ListNew.sameAll {B : Nat} {w : World} {l : List Ml} {L : List MMl} {p : Option Addr} {cp : Nat} (h : ListNew B w l L p cp) (hl : ∀ m ∈ l, m.ints ∧ m.d.length ≤ maxLen) : ∀ x ∈ L, MailIn w x ∧ MlShort x := fun x hx =>
  ⟨(h.okAll hl x hx).1, (h.okAll hl x hx).2.2⟩

theorem ListNew.len {B : Nat} {w : World} {l : List Ml} {L : List MMl} {p : Option Addr} {cp : Nat} (h : ListNew B w l L p cp) : L.length = l.length := by rw [← h.1, List.length_map]

/-- two lists in memory that say the same -/
theorem waySame_true (a b : Option Addr) (n ca cb : Nat) (xl yl : List MMl) (w : World) (hx : xl.length = n) (hn : n ≤ maxLen) (he : xl.map MMl.m = yl.map MMl.m) (ha : Lies w a (mailCells xl)) (hb : Lies w b (mailCells yl)) (hxa : ∀ y ∈ xl, MailIn w y ∧ MlShort y) (hya : ∀ y ∈ yl, MailIn w y ∧ MlShort y) :
    Calls Try.prog 10 #[.slice a n ca, .slice b n cb] w fun e w' => e = .returned (.bool true) ∧ Below w.heap.size w w' := by
  have hy : yl.length = n := by have := congrArg List.length he; rw [List.length_map, List.length_map, hx] at this; exact this.symm
  have h := waySame_any a b ca cb xl yl w (by omega) (by omega) ha hb hxa hya
  rw [hx, hy, decide_eq_true he] at h
  exact h

set_option maxHeartbeats 8000000 in
set_option maxRecDepth 8000 in
theorem W_wayBack (a : Option Addr) (l : List MMl) (c : Nat) (y : MMl) (k : Int) (w : World) (hl : Lies w a (mailCells l)) (hall : ∀ x ∈ l, MailIn w x ∧ MlOk x) (hc : l.length ≤ c) (hm : l.length ≤ maxLen) (hy : MailIn w y) (oy : MlOk y) (hk : I64 k) :
    Calls Try.prog 4 #[.slice a l.length c, .agg #[.int .i64 y.m.f, .int .i64 y.m.t, .int .i64 y.m.k, .int .i64 y.m.h.F, .int .i64 y.m.h.Q, .int .i64 y.m.h.T, .int .i64 y.m.h.L, .int .i64 y.m.h.B, .int .i64 y.m.h.K, .int .i64 y.m.id, .slice y.da y.m.d.length y.dc, .int .i64 y.m.n, .int .i64 y.m.y], .int .i64 k] w fun e w' => e = .returned (.bool true) ∧ Below w.heap.size w w' := by
  obtain ⟨W, hW⟩ : ∃ W, w.alloc (.cells #[.int .i64 y.m.f, .int .i64 y.m.t, .int .i64 y.m.k, .int .i64 y.m.h.F, .int .i64 y.m.h.Q, .int .i64 y.m.h.T, .int .i64 y.m.h.L, .int .i64 y.m.h.B, .int .i64 y.m.h.K, .int .i64 y.m.id, .slice y.da y.m.d.length y.dc, .int .i64 y.m.n, .int .i64 y.m.y] 34) = W := ⟨_, rfl⟩
  have hB : Below w.heap.size w W := by rw [← hW]; exact (Below.refl _ _).alloc (Nat.le_refl _) _
  have hbk : W.heap[w.heap.size]? = some (.cells #[.int .i64 y.m.f, .int .i64 y.m.t, .int .i64 y.m.k, .int .i64 y.m.h.F, .int .i64 y.m.h.Q, .int .i64 y.m.h.T, .int .i64 y.m.h.L, .int .i64 y.m.h.B, .int .i64 y.m.h.K, .int .i64 y.m.id, .slice y.da y.m.d.length y.dc, .int .i64 y.m.n, .int .i64 y.m.y] 34 (0, 0)) := by rw [← hW, heap_alloc_eq, if_pos rfl]
  have hS := send_any a l c y W (hl.below hB (Nat.le_refl _)) (fun x hx => ⟨(hall x hx).1.below hB, (hall x hx).2⟩) hc hm (hy.below hB) oy
  have hmi : ∀ m ∈ l.map MMl.m, m.ints ∧ m.d.length ≤ maxLen := fun m hm => by
    obtain ⟨x, hx, rfl⟩ := List.mem_map.1 hm
    exact (hall x hx).2
  obtain ⟨n, hn⟩ : ∃ n, l.length = n := ⟨_, rfl⟩
  obtain ⟨lm, hlm⟩ : ∃ lm, l.map MMl.m = lm := ⟨_, rfl⟩
  have hln : lm.length = n := by rw [← hlm, List.length_map, hn]
  rw [hlm] at hS hmi
  have HX := Shut.mk (And.intro hn (And.intro hl (And.intro hall (And.intro hy (And.intro oy (And.intro hlm (And.intro hln (And.intro hmi hk))))))))
  have HW := Shut.mk hW
  rw [hn] at hS hc hm ⊢
  obtain ⟨q0, q1, q2, q3, q4, q5, q6, q7, q8, q9, q10, q11, q12⟩ := mlBox hbk
  clear hW hl hall hn hy oy hlm hln hmi hk
  go_enter Try.func4, Try.ntmps4
  go_upto_region 1 with fail
  rw [HW.out]
  clear HW
  go_wp2_with fail
  refine hS.mono ?_
  rintro e W1 ⟨hR, hb1⟩
  have hB1 := hB.trans (hb1.mono hB.size)
  have hbk1 := blkB hbk hb1
  clear hS hB hb1 hbk q0 q1 q2 q3 q4 q5 q6 q7 q8 q9 q10 q11 q12
  rcases hR with ⟨hz, rfl⟩ | ⟨hz, L, p, cp, rfl, hcap, hL⟩
  · have bz : (sendCode lm y.m != 0) = true := by simpa using hz
    generalize sendCode lm y.m = z at bz hz ⊢
    clear hz
    go_wp2_with fail
    refine (posted_any W1).mono ?_
    rintro e W2 ⟨rfl, hb⟩
    have hB2 := hB1.trans (hb.mono hB1.size)
    clear hb
    go_wp2_with fail
    refine (posted_any W2).mono ?_
    rintro e W3 ⟨rfl, hb⟩
    have hB3 := hB2.trans (hb.mono hB2.size)
    clear hb
    go_wp2
    go_ret
    exact ⟨rfl, hB3⟩
  · obtain ⟨hwz, hyz⟩ := send_zero hz
    have hle := (wy_zero hwz).1
    obtain ⟨sl, hsl⟩ : ∃ sl, (sendL lm y.m).length = sl := ⟨_, rfl⟩
    have HL := Shut.mk (And.intro hL (And.intro hwz (And.intro hyz (And.intro hle (And.intro hsl hcap)))))
    rw [hsl] at hcap ⊢
    clear hz hL hwz hyz hle hsl
    go_wp2_with fail
    refine (posted_any W1).mono ?_
    rintro e W2 ⟨rfl, hb⟩
    have hB2 := hB1.trans (hb.mono hB1.size)
    have hbk2 := blkB hbk1 hb
    have HL2 := Shut.mk (HL.out.1.below hb)
    clear hb hB1 hbk1
    by_cases h40 : n = 40
    · have hs2 : sendL lm y.m = lm := by rw [sendL, if_neg (by rw [HX.out.2.2.2.2.2.2.1]; omega)]
      have hsn : sl = n := by rw [← HL.out.2.2.2.2.1, hs2, HX.out.2.2.2.2.2.2.1]
      have hLL : ListNew W.heap.size W2 lm L p cp := by have := HL2.out; rw [hs2] at this; exact this
      have hSm := waySame_true p a n cp c L l W2 (by rw [hLL.len, HX.out.2.2.2.2.2.2.1]) hm (by rw [hLL.1, HX.out.2.2.2.2.2.1]) hLL.lies (HX.out.2.1.below hB2 (Nat.le_refl _)) (hLL.sameAll HX.out.2.2.2.2.2.2.2.1) (fun x hx => ⟨(HX.out.2.2.1 x hx).1.below hB2, (HX.out.2.2.1 x hx).2.2⟩)
      have b40 : ((n : Int) == 40) = true := by simp; omega
      rw [hsn] at hcap ⊢
      clear hs2 hsn hLL b40
      subst h40
      go_wp2_with fail
      refine hSm.mono ?_
      rintro e W3 ⟨rfl, hb⟩
      have hB3 := hB2.trans (hb.mono hB2.size)
      clear hSm hb
      go_wp2
      go_ret
      exact ⟨rfl, hB3⟩
    · have hln := HX.out.2.2.2.2.2.2.1
      have hlt : n < 40 := by have := HL.out.2.2.2.1; omega
      have hs2 : sendL lm y.m = lm ++ [y.m] := by rw [sendL, if_pos (by omega)]
      obtain rfl : sl = n + 1 := by rw [← HL.out.2.2.2.2.1, hs2, List.length_append, hln]; rfl
      have hLL : ListNew W.heap.size W2 (lm ++ [y.m]) L p cp := by have := HL2.out; rw [hs2] at this; exact this
      have hLl : L.length = n + 1 := by rw [hLL.len, List.length_append, hln]; rfl
      have hwy2 := wy_app HL.out.2.1 HL.out.2.2.1 (by omega)
      have hmi2 : ∀ m ∈ lm ++ [y.m], m.ints ∧ m.d.length ≤ maxLen := fun m hm => by
        rcases List.mem_append.1 hm with hm | hm
        · exact HX.out.2.2.2.2.2.2.2.1 m hm
        · obtain rfl : m = y.m := by simpa using hm
          exact HX.out.2.2.2.2.1
      have b40 : ((n : Int) == 40) = false := by simp; omega
      have tk := take_any p L cp (n : Int) false W2 hLL.lies (hLL.okAll hmi2) (by omega) (by rw [hLl]; unfold maxLen; omega)
      rw [hLl, hLL.1] at tk
      have HY := Shut.mk (And.intro hLL (And.intro hLl (And.intro hwy2 hmi2)))
      clear hs2 hLL hLl hwy2 hmi2 hln HL HL2
      go_wp2_with fail
      refine tk.mono ?_
      rintro e W3 ⟨hR, hb3⟩
      have hB3 := hB2.trans (hb3.mono hB2.size)
      have hbk3 := blkB hbk2 hb3
      have HY3 := Shut.mk (HY.out.1.below hb3)
      have htc : takeCode (lm ++ [y.m]) (n : Int) = 0 := by rw [takeCode, if_neg (by rw [HY.out.2.2.1]; decide), if_neg (by rw [List.length_append, HX.out.2.2.2.2.2.2.1]; simp; omega)]
      have htl : takeL (lm ++ [y.m]) n false = lm := by
        have h := HX.out.2.2.2.2.2.2.1
        rw [takeL, if_neg (by simp), ← h, List.eraseIdx_eq_take_drop_succ]
        simp
      have htg : (lm ++ [y.m])[n]? = some y.m := by
        have h := HX.out.2.2.2.2.2.2.1
        rw [← h]; simp
      rcases hR with ⟨h, _⟩ | ⟨_, L3, p3, cp3, x3, rfl, hcap3, hL3, hx3, hi3⟩
      · exact absurd htc h
      have hti : ((n : Int)).toNat = n := by simp
      rw [hti, htl, HX.out.2.2.2.2.2.2.1] at hcap3 ⊢
      rw [hti, htl] at hL3
      rw [hti, htg] at hx3
      replace hx3 := Option.some.inj hx3
      clear tk hb3 hB2 hbk2 htc htl htg hti
      go_upto_region 7 with fail
      obtain ⟨W4, hW4⟩ : ∃ W4, W3.alloc (.cells #[.int .i64 x3.m.f, .int .i64 x3.m.t, .int .i64 x3.m.k, .int .i64 x3.m.h.F, .int .i64 x3.m.h.Q, .int .i64 x3.m.h.T, .int .i64 x3.m.h.L, .int .i64 x3.m.h.B, .int .i64 x3.m.h.K, .int .i64 x3.m.id, .slice x3.da x3.m.d.length x3.dc, .int .i64 x3.m.n, .int .i64 x3.m.y] 34) = W4 := ⟨_, rfl⟩
      rw [hW4]
      have hb4 : Below W3.heap.size W3 W4 := by rw [← hW4]; exact (Below.refl _ _).alloc (Nat.le_refl _) _
      have h34 : W4.heap[W3.heap.size]? = some (.cells #[.int .i64 x3.m.f, .int .i64 x3.m.t, .int .i64 x3.m.k, .int .i64 x3.m.h.F, .int .i64 x3.m.h.Q, .int .i64 x3.m.h.T, .int .i64 x3.m.h.L, .int .i64 x3.m.h.B, .int .i64 x3.m.h.K, .int .i64 x3.m.id, .slice x3.da x3.m.d.length x3.dc, .int .i64 x3.m.n, .int .i64 x3.m.y] 34 (0, 0)) := by rw [← hW4, heap_alloc_eq, if_pos rfl]
      have hB4 := hB3.trans (hb4.mono hB3.size)
      have hbk4 := blkB hbk3 hb4
      have HY4 := Shut.mk (HY3.out.below hb4)
      have hL4 := hL3.below hb4
      have hi4 := hi3.below hb4
      have hln := HX.out.2.2.2.2.2.2.1
      have hSm := waySame_true p3 a n cp3 c L3 l W4 (by rw [hL4.len, hln]) hm (by rw [hL4.1, HX.out.2.2.2.2.2.1]) hL4.lies (HX.out.2.1.below hB4 (Nat.le_refl _)) (hL4.sameAll HX.out.2.2.2.2.2.2.2.1) (fun x hx => ⟨(HX.out.2.2.1 x hx).1.below hB4, (HX.out.2.2.1 x hx).2.2⟩)
      have HX3 := Shut.mk (And.intro hx3 hi4)
      clear hW4 hb4 hB3 hbk3 HY3 hL3 hi3 hL4 hi4 hx3 hln
      go_wp2_with fail
      refine hSm.mono ?_
      rintro e W5 ⟨rfl, hb5⟩
      have hB5 := hB4.trans (hb5.mono hB4.size)
      have hbk5 := blkB hbk4 hb5
      have h35 := blkB h34 hb5
      have HY5 := Shut.mk (HY4.out.below hb5)
      have hi5 := HX3.out.2.below hb5
      clear hSm hb5 hB4 hbk4 h34 HY4
      have r0 : W5.cell? ⟨W3.heap.size, 0, none⟩ = some (.int .i64 x3.m.f) := cellB h35 0 _ rfl
      have r1 : W5.cell? ⟨W3.heap.size, 1, none⟩ = some (.int .i64 x3.m.t) := cellB h35 1 _ rfl
      have r2 : W5.cell? ⟨W3.heap.size, 2, none⟩ = some (.int .i64 x3.m.k) := cellB h35 2 _ rfl
      have r3 : W5.cell? ⟨W3.heap.size, 3, none⟩ = some (.int .i64 x3.m.h.F) := cellB h35 3 _ rfl
      have r4 : W5.cell? ⟨W3.heap.size, 4, none⟩ = some (.int .i64 x3.m.h.Q) := cellB h35 4 _ rfl
      have r5 : W5.cell? ⟨W3.heap.size, 5, none⟩ = some (.int .i64 x3.m.h.T) := cellB h35 5 _ rfl
      have r6 : W5.cell? ⟨W3.heap.size, 6, none⟩ = some (.int .i64 x3.m.h.L) := cellB h35 6 _ rfl
      have r7 : W5.cell? ⟨W3.heap.size, 7, none⟩ = some (.int .i64 x3.m.h.B) := cellB h35 7 _ rfl
      have r8 : W5.cell? ⟨W3.heap.size, 8, none⟩ = some (.int .i64 x3.m.h.K) := cellB h35 8 _ rfl
      have r9 : W5.cell? ⟨W3.heap.size, 9, none⟩ = some (.int .i64 x3.m.id) := cellB h35 9 _ rfl
      have r10 : W5.cell? ⟨W3.heap.size, 10, none⟩ = some (.slice x3.da x3.m.d.length x3.dc) := cellB h35 10 _ rfl
      have r11 : W5.cell? ⟨W3.heap.size, 11, none⟩ = some (.int .i64 x3.m.n) := cellB h35 11 _ rfl
      have r12 : W5.cell? ⟨W3.heap.size, 12, none⟩ = some (.int .i64 x3.m.y) := cellB h35 12 _ rfl
      obtain ⟨Wx, hWx⟩ : ∃ Wx, W5.alloc (.cells #[.int .i64 x3.m.f, .int .i64 x3.m.t, .int .i64 x3.m.k, .int .i64 x3.m.h.F, .int .i64 x3.m.h.Q, .int .i64 x3.m.h.T, .int .i64 x3.m.h.L, .int .i64 x3.m.h.B, .int .i64 x3.m.h.K, .int .i64 x3.m.id, .slice x3.da x3.m.d.length x3.dc, .int .i64 x3.m.n, .int .i64 x3.m.y] 34) = Wx := ⟨_, rfl⟩
      have hgx := blkB hbk5 (show Below W5.heap.size W5 Wx by rw [← hWx]; exact (Below.refl _ _).alloc (Nat.le_refl _) _)
      have q0 : (W5.alloc (.cells #[.int .i64 x3.m.f, .int .i64 x3.m.t, .int .i64 x3.m.k, .int .i64 x3.m.h.F, .int .i64 x3.m.h.Q, .int .i64 x3.m.h.T, .int .i64 x3.m.h.L, .int .i64 x3.m.h.B, .int .i64 x3.m.h.K, .int .i64 x3.m.id, .slice x3.da x3.m.d.length x3.dc, .int .i64 x3.m.n, .int .i64 x3.m.y] 34)).cell? ⟨w.heap.size, 0, none⟩ = some (.int .i64 y.m.f) := by rw [hWx]; exact cellB hgx 0 _ rfl
      have q1 : (W5.alloc (.cells #[.int .i64 x3.m.f, .int .i64 x3.m.t, .int .i64 x3.m.k, .int .i64 x3.m.h.F, .int .i64 x3.m.h.Q, .int .i64 x3.m.h.T, .int .i64 x3.m.h.L, .int .i64 x3.m.h.B, .int .i64 x3.m.h.K, .int .i64 x3.m.id, .slice x3.da x3.m.d.length x3.dc, .int .i64 x3.m.n, .int .i64 x3.m.y] 34)).cell? ⟨w.heap.size, 1, none⟩ = some (.int .i64 y.m.t) := by rw [hWx]; exact cellB hgx 1 _ rfl
      have q2 : (W5.alloc (.cells #[.int .i64 x3.m.f, .int .i64 x3.m.t, .int .i64 x3.m.k, .int .i64 x3.m.h.F, .int .i64 x3.m.h.Q, .int .i64 x3.m.h.T, .int .i64 x3.m.h.L, .int .i64 x3.m.h.B, .int .i64 x3.m.h.K, .int .i64 x3.m.id, .slice x3.da x3.m.d.length x3.dc, .int .i64 x3.m.n, .int .i64 x3.m.y] 34)).cell? ⟨w.heap.size, 2, none⟩ = some (.int .i64 y.m.k) := by rw [hWx]; exact cellB hgx 2 _ rfl
      have q3 : (W5.alloc (.cells #[.int .i64 x3.m.f, .int .i64 x3.m.t, .int .i64 x3.m.k, .int .i64 x3.m.h.F, .int .i64 x3.m.h.Q, .int .i64 x3.m.h.T, .int .i64 x3.m.h.L, .int .i64 x3.m.h.B, .int .i64 x3.m.h.K, .int .i64 x3.m.id, .slice x3.da x3.m.d.length x3.dc, .int .i64 x3.m.n, .int .i64 x3.m.y] 34)).cell? ⟨w.heap.size, 3, none⟩ = some (.int .i64 y.m.h.F) := by rw [hWx]; exact cellB hgx 3 _ rfl
      have q4 : (W5.alloc (.cells #[.int .i64 x3.m.f, .int .i64 x3.m.t, .int .i64 x3.m.k, .int .i64 x3.m.h.F, .int .i64 x3.m.h.Q, .int .i64 x3.m.h.T, .int .i64 x3.m.h.L, .int .i64 x3.m.h.B, .int .i64 x3.m.h.K, .int .i64 x3.m.id, .slice x3.da x3.m.d.length x3.dc, .int .i64 x3.m.n, .int .i64 x3.m.y] 34)).cell? ⟨w.heap.size, 4, none⟩ = some (.int .i64 y.m.h.Q) := by rw [hWx]; exact cellB hgx 4 _ rfl
      have q5 : (W5.alloc (.cells #[.int .i64 x3.m.f, .int .i64 x3.m.t, .int .i64 x3.m.k, .int .i64 x3.m.h.F, .int .i64 x3.m.h.Q, .int .i64 x3.m.h.T, .int .i64 x3.m.h.L, .int .i64 x3.m.h.B, .int .i64 x3.m.h.K, .int .i64 x3.m.id, .slice x3.da x3.m.d.length x3.dc, .int .i64 x3.m.n, .int .i64 x3.m.y] 34)).cell? ⟨w.heap.size, 5, none⟩ = some (.int .i64 y.m.h.T) := by rw [hWx]; exact cellB hgx 5 _ rfl
      have q6 : (W5.alloc (.cells #[.int .i64 x3.m.f, .int .i64 x3.m.t, .int .i64 x3.m.k, .int .i64 x3.m.h.F, .int .i64 x3.m.h.Q, .int .i64 x3.m.h.T, .int .i64 x3.m.h.L, .int .i64 x3.m.h.B, .int .i64 x3.m.h.K, .int .i64 x3.m.id, .slice x3.da x3.m.d.length x3.dc, .int .i64 x3.m.n, .int .i64 x3.m.y] 34)).cell? ⟨w.heap.size, 6, none⟩ = some (.int .i64 y.m.h.L) := by rw [hWx]; exact cellB hgx 6 _ rfl
      have q7 : (W5.alloc (.cells #[.int .i64 x3.m.f, .int .i64 x3.m.t, .int .i64 x3.m.k, .int .i64 x3.m.h.F, .int .i64 x3.m.h.Q, .int .i64 x3.m.h.T, .int .i64 x3.m.h.L, .int .i64 x3.m.h.B, .int .i64 x3.m.h.K, .int .i64 x3.m.id, .slice x3.da x3.m.d.length x3.dc, .int .i64 x3.m.n, .int .i64 x3.m.y] 34)).cell? ⟨w.heap.size, 7, none⟩ = some (.int .i64 y.m.h.B) := by rw [hWx]; exact cellB hgx 7 _ rfl
      have q8 : (W5.alloc (.cells #[.int .i64 x3.m.f, .int .i64 x3.m.t, .int .i64 x3.m.k, .int .i64 x3.m.h.F, .int .i64 x3.m.h.Q, .int .i64 x3.m.h.T, .int .i64 x3.m.h.L, .int .i64 x3.m.h.B, .int .i64 x3.m.h.K, .int .i64 x3.m.id, .slice x3.da x3.m.d.length x3.dc, .int .i64 x3.m.n, .int .i64 x3.m.y] 34)).cell? ⟨w.heap.size, 8, none⟩ = some (.int .i64 y.m.h.K) := by rw [hWx]; exact cellB hgx 8 _ rfl
      have q9 : (W5.alloc (.cells #[.int .i64 x3.m.f, .int .i64 x3.m.t, .int .i64 x3.m.k, .int .i64 x3.m.h.F, .int .i64 x3.m.h.Q, .int .i64 x3.m.h.T, .int .i64 x3.m.h.L, .int .i64 x3.m.h.B, .int .i64 x3.m.h.K, .int .i64 x3.m.id, .slice x3.da x3.m.d.length x3.dc, .int .i64 x3.m.n, .int .i64 x3.m.y] 34)).cell? ⟨w.heap.size, 9, none⟩ = some (.int .i64 y.m.id) := by rw [hWx]; exact cellB hgx 9 _ rfl
      have q10 : (W5.alloc (.cells #[.int .i64 x3.m.f, .int .i64 x3.m.t, .int .i64 x3.m.k, .int .i64 x3.m.h.F, .int .i64 x3.m.h.Q, .int .i64 x3.m.h.T, .int .i64 x3.m.h.L, .int .i64 x3.m.h.B, .int .i64 x3.m.h.K, .int .i64 x3.m.id, .slice x3.da x3.m.d.length x3.dc, .int .i64 x3.m.n, .int .i64 x3.m.y] 34)).cell? ⟨w.heap.size, 10, none⟩ = some (.slice y.da y.m.d.length y.dc) := by rw [hWx]; exact cellB hgx 10 _ rfl
      have q11 : (W5.alloc (.cells #[.int .i64 x3.m.f, .int .i64 x3.m.t, .int .i64 x3.m.k, .int .i64 x3.m.h.F, .int .i64 x3.m.h.Q, .int .i64 x3.m.h.T, .int .i64 x3.m.h.L, .int .i64 x3.m.h.B, .int .i64 x3.m.h.K, .int .i64 x3.m.id, .slice x3.da x3.m.d.length x3.dc, .int .i64 x3.m.n, .int .i64 x3.m.y] 34)).cell? ⟨w.heap.size, 11, none⟩ = some (.int .i64 y.m.n) := by rw [hWx]; exact cellB hgx 11 _ rfl
      have q12 : (W5.alloc (.cells #[.int .i64 x3.m.f, .int .i64 x3.m.t, .int .i64 x3.m.k, .int .i64 x3.m.h.F, .int .i64 x3.m.h.Q, .int .i64 x3.m.h.T, .int .i64 x3.m.h.L, .int .i64 x3.m.h.B, .int .i64 x3.m.h.K, .int .i64 x3.m.id, .slice x3.da x3.m.d.length x3.dc, .int .i64 x3.m.n, .int .i64 x3.m.y] 34)).cell? ⟨w.heap.size, 12, none⟩ = some (.int .i64 y.m.y) := by rw [hWx]; exact cellB hgx 12 _ rfl
      clear hgx hWx
      obtain ⟨W6, hW6⟩ : ∃ W6, (W5.alloc (.cells #[.int .i64 x3.m.f, .int .i64 x3.m.t, .int .i64 x3.m.k, .int .i64 x3.m.h.F, .int .i64 x3.m.h.Q, .int .i64 x3.m.h.T, .int .i64 x3.m.h.L, .int .i64 x3.m.h.B, .int .i64 x3.m.h.K, .int .i64 x3.m.id, .slice x3.da x3.m.d.length x3.dc, .int .i64 x3.m.n, .int .i64 x3.m.y] 34)).alloc (.cells #[.int .i64 y.m.f, .int .i64 y.m.t, .int .i64 y.m.k, .int .i64 y.m.h.F, .int .i64 y.m.h.Q, .int .i64 y.m.h.T, .int .i64 y.m.h.L, .int .i64 y.m.h.B, .int .i64 y.m.h.K, .int .i64 y.m.id, .slice y.da y.m.d.length y.dc, .int .i64 y.m.n, .int .i64 y.m.y] 34) = W6 := ⟨_, rfl⟩
      have hb6 : Below W5.heap.size W5 W6 := by rw [← hW6]; exact ((Below.refl _ _).alloc (Nat.le_refl _) _).alloc (by simp) _
      have ha6 : W6.heap[W5.heap.size]? = some (.cells #[.int .i64 x3.m.f, .int .i64 x3.m.t, .int .i64 x3.m.k, .int .i64 x3.m.h.F, .int .i64 x3.m.h.Q, .int .i64 x3.m.h.T, .int .i64 x3.m.h.L, .int .i64 x3.m.h.B, .int .i64 x3.m.h.K, .int .i64 x3.m.id, .slice x3.da x3.m.d.length x3.dc, .int .i64 x3.m.n, .int .i64 x3.m.y] 34 (0, 0)) := by rw [← hW6, heap_alloc_eq, if_neg (by simp), heap_alloc_eq, if_pos rfl]
      have ho6 : W6.heap[W5.heap.size + 1]? = some (.cells #[.int .i64 y.m.f, .int .i64 y.m.t, .int .i64 y.m.k, .int .i64 y.m.h.F, .int .i64 y.m.h.Q, .int .i64 y.m.h.T, .int .i64 y.m.h.L, .int .i64 y.m.h.B, .int .i64 y.m.h.K, .int .i64 y.m.id, .slice y.da y.m.d.length y.dc, .int .i64 y.m.n, .int .i64 y.m.y] 34 (0, 0)) := by rw [← hW6, heap_alloc_eq, if_pos (by simp)]
      have hB6 := hB5.trans (hb6.mono hB5.size)
      have hSm := waySame_true (some ⟨W5.heap.size, 0, none⟩) (some ⟨W5.heap.size + 1, 0, none⟩) 1 1 1 [x3] [y] W6 rfl (by unfold maxLen; omega) (by simp [HX3.out.1]) (oneMail ha6) (oneMail ho6) (fun x hx => by
        (obtain rfl : x = x3 := by simpa using hx)
        exact ⟨hi5.below hb6, by show x.m.d.length ≤ maxLen; rw [← HX3.out.1]; exact HX.out.2.2.2.2.1.2⟩) (fun x hx => by
        (obtain rfl : x = y := by simpa using hx)
        exact ⟨HX.out.2.2.2.1.below hB6, HX.out.2.2.2.2.1.2⟩)
      have HW6 := Shut.mk hW6
      have HY6 := Shut.mk (HY5.out.below hb6)
      clear hW6 hb6 ha6 ho6 hbk5 h35 HY5 hi5 HX3 hB5
      go_wp2_with fail
      rw [HW6.out]
      refine hSm.mono ?_
      rintro e W7 ⟨rfl, hb7⟩
      have hB7 := hB6.trans (hb7.mono hB6.size)
      have HY7 := Shut.mk (HY6.out.below hb7)
      clear hSm hb7 HY6 HW6 hB6 q0 q1 q2 q3 q4 q5 q6 q7 q8 q9 q10 q11 q12 r0 r1 r2 r3 r4 r5 r6 r7 r8 r9 r10 r11 r12
      have hAt := at_any k ((n : Int) + 1) W7 HX.out.2.2.2.2.2.2.2.2 (by omega) (by omega)
      go_wp2_with fail
      refine hAt.mono ?_
      rintro e _ ⟨rfl, rfl⟩
      clear hAt
      obtain ⟨hq0, hq1⟩ := atN_lt k (n := (n : Int) + 1) (by omega)
      obtain ⟨q, hq⟩ : ∃ q : Nat, atN k ((n : Int) + 1) = (q : Int) := ⟨(atN k ((n : Int) + 1)).toNat, by omega⟩
      rw [hq] at hq0 hq1 ⊢
      have hqn : q < n + 1 := by omega
      clear hq hq0 hq1
      have tk := take_any p L cp (q : Int) true W7 HY7.out.lies (HY7.out.okAll HY.out.2.2.2) (by rw [HY.out.2.1]; exact hcap) (by rw [HY.out.2.1]; unfold maxLen; omega)
      rw [HY.out.2.1, HY7.out.1] at tk
      go_wp2_with fail
      refine tk.mono ?_
      rintro e W8 ⟨hR, hb8⟩
      have hB8 := hB7.trans (hb8.mono hB7.size)
      have HY8 := Shut.mk (HY7.out.below hb8)
      have htc : takeCode (lm ++ [y.m]) (q : Int) = 0 := by rw [takeCode, if_neg (by rw [HY.out.2.2.1]; decide), if_neg (by rw [List.length_append, HX.out.2.2.2.2.2.2.1]; simp; omega)]
      have htl : takeL (lm ++ [y.m]) q true = lm ++ [y.m] := by rw [takeL, if_pos rfl]
      rcases hR with ⟨h, _⟩ | ⟨_, L8, p8, cp8, x8, rfl, hcap8, hL8, hx8, hi8⟩
      · exact absurd htc h
      have hti : ((q : Int)).toNat = q := by simp
      have hl2 : (lm ++ [y.m]).length = n + 1 := by rw [List.length_append, HX.out.2.2.2.2.2.2.1]; rfl
      rw [hti, htl, hl2] at hcap8 ⊢
      rw [hti, htl] at hL8
      rw [hti] at hx8
      clear tk hb8 hB7 HY7 htc htl hti
      go_upto_region 11 with fail
      obtain ⟨W9, hW9⟩ : ∃ W9, W8.alloc (.cells #[.int .i64 x8.m.f, .int .i64 x8.m.t, .int .i64 x8.m.k, .int .i64 x8.m.h.F, .int .i64 x8.m.h.Q, .int .i64 x8.m.h.T, .int .i64 x8.m.h.L, .int .i64 x8.m.h.B, .int .i64 x8.m.h.K, .int .i64 x8.m.id, .slice x8.da x8.m.d.length x8.dc, .int .i64 x8.m.n, .int .i64 x8.m.y] 34) = W9 := ⟨_, rfl⟩
      rw [hW9]
      have hb9 : Below W8.heap.size W8 W9 := by rw [← hW9]; exact (Below.refl _ _).alloc (Nat.le_refl _) _
      have h89 : W9.heap[W8.heap.size]? = some (.cells #[.int .i64 x8.m.f, .int .i64 x8.m.t, .int .i64 x8.m.k, .int .i64 x8.m.h.F, .int .i64 x8.m.h.Q, .int .i64 x8.m.h.T, .int .i64 x8.m.h.L, .int .i64 x8.m.h.B, .int .i64 x8.m.h.K, .int .i64 x8.m.id, .slice x8.da x8.m.d.length x8.dc, .int .i64 x8.m.n, .int .i64 x8.m.y] 34 (0, 0)) := by rw [← hW9, heap_alloc_eq, if_pos rfl]
      have hB9 := hB8.trans (hb9.mono hB8.size)
      have HY9 := HY8.out.below hb9
      have hL9 := hL8.below hb9
      have hi9 := hi8.below hb9
      obtain ⟨gp, rfl⟩ : ∃ gp, p = some ⟨gp, 0, none⟩ := by
        rcases HY9.addr with ⟨_, _, h0⟩ | ⟨g, h, _⟩
        · rw [hl2] at h0; omega
        · exact ⟨g, h⟩
      obtain ⟨z, hz⟩ : ∃ z, L[q]? = some z := ⟨_, List.getElem?_eq_getElem (by rw [HY.out.2.1]; exact hqn)⟩
      have hzm : z.m = x8.m := by
        have h1 : (L.map MMl.m)[q]? = some z.m := by rw [List.getElem?_map, hz]; rfl
        rw [HY9.1, hx8] at h1
        exact (Option.some.inj h1).symm
      have hxs : x8.m.d.length ≤ maxLen := by
        have := HY.out.2.2.2 x8.m (List.mem_of_getElem? hx8)
        exact this.2
      have cS1 : ∀ u : World, Below W9.heap.size W9 u → Calls Try.prog 10 #[.slice p8 (n + 1) cp8, .slice (some ⟨gp, 0, none⟩) (n + 1) cp] u fun e w' => e = .returned (.bool true) ∧ Below u.heap.size u w' := fun u hu =>
        waySame_true p8 (some ⟨gp, 0, none⟩) (n + 1) cp8 cp L8 L u (by rw [hL9.len, hl2]) (by unfold maxLen; omega) (by rw [hL9.1, HY9.1]) ((hL9.below hu).lies) ((HY9.below hu).lies) ((hL9.below hu).sameAll HY.out.2.2.2) ((HY9.below hu).sameAll HY.out.2.2.2)
      have cS2 : ∀ (u : World) (g : Nat), Below W9.heap.size W9 u → u.heap[g]? = some (.cells #[.int .i64 x8.m.f, .int .i64 x8.m.t, .int .i64 x8.m.k, .int .i64 x8.m.h.F, .int .i64 x8.m.h.Q, .int .i64 x8.m.h.T, .int .i64 x8.m.h.L, .int .i64 x8.m.h.B, .int .i64 x8.m.h.K, .int .i64 x8.m.id, .slice x8.da x8.m.d.length x8.dc, .int .i64 x8.m.n, .int .i64 x8.m.y] 34 (0, 0)) → Calls Try.prog 10 #[.slice (some ⟨g, 0, none⟩) 1 1, .slice (some ⟨gp, q * 13, none⟩) 1 (cp - q)] u fun e w' => e = .returned (.bool true) ∧ Below u.heap.size u w' := fun u g hu hg =>
        waySame_true (some ⟨g, 0, none⟩) (some ⟨gp, q * 13, none⟩) 1 1 (cp - q) [x8] [z] u rfl (by unfold maxLen; omega) (by simp [hzm]) (oneMail hg) (by
          have h1 := (HY9.below hu).lies
          intro j v hv
          refine ⟨gp, q * 13, rfl, ?_⟩
          have hj : z.cells[j]? = some v := by simpa [mailCells] using hv
          have h2 := mails_cell ⟨h1, hz⟩ j hj
          rw [Nat.zero_add] at h2
          exact h2) (fun x hx => by
          (obtain rfl : x = x8 := by simpa using hx)
          exact ⟨hi9.below hu, hxs⟩) (fun x hx => by
          (obtain rfl : x = z := by simpa using hx)
          exact ⟨((HY9.below hu).2.2 x (List.mem_of_getElem? hz)).1, by show x.m.d.length ≤ maxLen; rw [hzm]; exact hxs⟩)
      have C1 := Shut.mk cS1
      have C2 := Shut.mk cS2
      have hw1 : IntKind.i64.wrap ((q : Int) + 1) = (q : Int) + 1 := by rw [IntKind.wrap_i64]; omega
      have g1 : ((q : Int) + 1).toNat = q + 1 := by omega
      have g2 : q ≤ cp := by omega
      have g3 : q + 1 ≤ n + 1 := by omega
      have g4 : (q : Int) + 1 ≤ (cp : Int) := by omega
      have g5 : ¬ (cp : Int) < (q : Int) + 1 := by omega
      have g6 : q + 1 - q = 1 := by omega
      have g7 : ¬ cp = q := by omega
      have g8 : ¬ (q : Int) + 1 < (q : Int) := by omega
      have g9 : ¬ (q : Int) < 0 := by omega
      have g10 : ¬ (q : Int) + 1 < 0 := by omega
      have g11 : q + 1 ≤ cp := by omega
      have g12 : q ≤ q + 1 := by omega
      have HF := Shut.mk hB9
      clear cS1 cS2 hW9 hb9 hB8 HY8 HY9 hL8 hL9 hi8 hi9 hz hzm hxs hx8 HY HX hl2 h40 hlt b40
      have q0 : W9.cell? ⟨W8.heap.size, 0, none⟩ = some (.int .i64 x8.m.f) := cellB h89 0 _ rfl
      have q1 : W9.cell? ⟨W8.heap.size, 1, none⟩ = some (.int .i64 x8.m.t) := cellB h89 1 _ rfl
      have q2 : W9.cell? ⟨W8.heap.size, 2, none⟩ = some (.int .i64 x8.m.k) := cellB h89 2 _ rfl
      have q3 : W9.cell? ⟨W8.heap.size, 3, none⟩ = some (.int .i64 x8.m.h.F) := cellB h89 3 _ rfl
      have q4 : W9.cell? ⟨W8.heap.size, 4, none⟩ = some (.int .i64 x8.m.h.Q) := cellB h89 4 _ rfl
      have q5 : W9.cell? ⟨W8.heap.size, 5, none⟩ = some (.int .i64 x8.m.h.T) := cellB h89 5 _ rfl
      have q6 : W9.cell? ⟨W8.heap.size, 6, none⟩ = some (.int .i64 x8.m.h.L) := cellB h89 6 _ rfl
      have q7 : W9.cell? ⟨W8.heap.size, 7, none⟩ = some (.int .i64 x8.m.h.B) := cellB h89 7 _ rfl
      have q8 : W9.cell? ⟨W8.heap.size, 8, none⟩ = some (.int .i64 x8.m.h.K) := cellB h89 8 _ rfl
      have q9 : W9.cell? ⟨W8.heap.size, 9, none⟩ = some (.int .i64 x8.m.id) := cellB h89 9 _ rfl
      have q10 : W9.cell? ⟨W8.heap.size, 10, none⟩ = some (.slice x8.da x8.m.d.length x8.dc) := cellB h89 10 _ rfl
      have q11 : W9.cell? ⟨W8.heap.size, 11, none⟩ = some (.int .i64 x8.m.n) := cellB h89 11 _ rfl
      have q12 : W9.cell? ⟨W8.heap.size, 12, none⟩ = some (.int .i64 x8.m.y) := cellB h89 12 _ rfl
      have H89 := Shut.mk h89
      clear h89
      go_region_with (first | (go_at_call 10; refine (C1.out _ ((Below.refl _ _).drew)).mono ?_; rintro e wk ⟨rfl, hbk⟩; have hkk : Below W9.heap.size W9 wk := ((Below.refl _ _).drew).trans (hbk.mono (Nat.le_refl _)); clear hbk q0 q1 q2 q3 q4 q5 q6 q7 q8 q9 q10 q11 q12; obtain ⟨q0, q1, q2, q3, q4, q5, q6, q7, q8, q9, q10, q11, q12⟩ := mlBox (blkB H89.out hkk)) | (go_at_call 10; refine (C2.out _ _ (by first | exact hkk.alloc hkk.size _ | exact (hkk.alloc hkk.size _).drew) (by first | exact (heap_alloc_eq _ _ _).trans (if_pos rfl))).mono ?_; rintro e wj ⟨rfl, hbj⟩; have hF2 : Below W9.heap.size W9 wj := (hkk.alloc hkk.size _).trans (hbj.mono (by have := hkk.size; simp; omega))))
      all_goals
        have hF := HF.out.trans (hF2.mono HF.out.size)
        go_wp2
        go_ret
        exact ⟨rfl, hF⟩

end Go.Proofs.Ythhhlampphlmgaa
