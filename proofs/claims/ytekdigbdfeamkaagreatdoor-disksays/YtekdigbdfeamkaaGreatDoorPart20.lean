import Derived.Test.YtekdigbdfeamkaaGreatDoorPart19
import Derived.Test.YtekdigbdfeamkaaGreatDoorPart18
import Derived.Test.YtekdigbdfeamkaaGreatDoorPart16
/-
  Chapter 8, the reference: Synced, PutOn.
-/
namespace Go.Proofs.YtekdigbdfeamkaaGreatDoor
open Go.RowKit
set_option linter.unusedVariables false
set_option linter.unusedSimpArgs false

section
variable {w : World} {s v : List UInt8} {sa : Option Addr} {n sc : Nat} {wa : Option Addr} {m wc : Nat}

/-- .. the zero disk, where there is one -/
def DkAnsI (z : Int) (s v : List UInt8) (e : Ending) (w' : World) : Prop := DkAns z (if z = 0 then s else []) (if z = 0 then v else []) e w'

theorem DkAnsI.good {s v : List UInt8} {e : Ending} {w' : World} (h : DkAns 0 s v e w') : DkAnsI 0 s v e w' := by
  unfold DkAnsI
  rw [if_pos rfl, if_pos rfl]
  exact h

theorem DkAnsI.bad {z : Int} {s v : List UInt8} {e : Ending} {w' : World} (hz : z ≠ 0) (he : e = .returned (.tuple #[.agg #[.slice none 0 0, .slice none 0 0], .int .i64 z])) : DkAnsI z s v e w' := by
  unfold DkAnsI
  rw [if_neg hz, if_neg hz]
  exact ⟨none, 0, 0, none, 0, 0, he, DkIn.zero _⟩

set_option maxHeartbeats 1000000 in
set_option maxRecDepth 4000 in
theorem syncedR (h : DkIn w s v sa n sc wa m wc) (ok : DkOk s v) (hL : LaidN w) :
    Calls Tryz.prog 14 #[.agg #[.slice sa n sc, .slice wa m wc]] w fun e w' => DkAnsI (syncCode s v) (s ++ v) [] e w' ∧ Below w.heap.size w w' := by
  obtain ⟨W, hW⟩ : ∃ W, (w.alloc (.cells #[.slice sa n sc, .slice wa m wc] 24)).alloc (.cells #[.slice none 0 0, .slice none 0 0] 24) = W := ⟨_, rfl⟩
  have hBW : Below w.heap.size w W := by rw [← hW]; exact ((Below.refl _ _).alloc (Nat.le_refl _) _).alloc (by simp) _
  have hb1 : W.heap[w.heap.size]? = some (.cells #[.slice sa n sc, .slice wa m wc] 24 (0, 0)) := by rw [← hW, heap_alloc_eq, if_neg (by simp), heap_alloc_eq, if_pos rfl]
  have hb3 : W.heap[w.heap.size + 1]? = some (.cells #[.slice none 0 0, .slice none 0 0] 24 (0, 0)) := by rw [← hW, heap_alloc_eq, if_pos (by simp)]
  have hk := h.below hBW
  have hz1 : dkCode s v = 0 := ok.code
  have hok := ok.1
  have e1 := h.hn
  have e2 := h.hm
  have hA : Below W.heap.size W (W.alloc (.cells #[.slice sa n sc, .slice wa m wc] 22)) := (Below.refl _ _).alloc (Nat.le_refl _) _
  have hC := catB2 (w := W.alloc (.cells #[.slice sa n sc, .slice wa m wc] 22)) e1 e2 (by omega) (hk.ls.below hA (Nat.le_refl _)) (hk.lv.below hA (Nat.le_refl _)) (ca := sc) (cb := wc) ⟨W.heap.size, 0, none⟩ (Lies.alloc_new _ _ _)
  have HS : Shut (syncCode s v = dkCode (s ++ v) [] ∧ n + m ≤ 60000 ∧ (s ++ v).length = n + m) := ⟨by rw [syncCode, if_pos hz1], by omega, by rw [List.length_append]; omega⟩
  obtain ⟨c0, c1, f0, f1⟩ := cellsD hb1
  clear h hk hz1 hok e1 e2
  go_enter Tryz.func14, Tryz.ntmps14
  go_wp2_with fail
  refine hC.mono ?_
  rintro e W1 ⟨q, c, rfl, hlq, hqc, hb, hqn⟩
  have HQ : Shut (∀ b o, q = some ⟨b, o, none⟩ → w.heap.size + 1 < b) := ⟨fun b o e => by have := hqn b o e; have := (Array.getElem?_eq_some_iff.1 hb3).1; simp at *; omega⟩
  have hB1 : Below W.heap.size W W1 := hA.trans (hb.mono hA.size)
  have hF1 := hBW.trans (hB1.mono hBW.size)
  have hk1 := blkB hb1 hB1
  have hk3 := blkB hb3 hB1
  clear hC hW hA hb hB1 c0 c1 f0 f1
  obtain ⟨c0, c1, f0, f1⟩ := cellsD hk1
  go_upto_region 2 with fail
  obtain ⟨W2, hW2, hq2, hk2, hB2⟩ := box2 W1 w.heap.size 24 _ _ (.slice q (n + m) c) (.slice none 0 0) hk1
  rw [hW2]
  have hF2 := hB2 _ _ (Nat.le_refl _) hF1
  have hlt0 : w.heap.size + 1 < W.heap.size := (Array.getElem?_eq_some_iff.1 hb3).1
  have hlq2 := liesFar hlq hk2 (fun b o e => by have := hqn b o e; simp at this; omega)
  have hk32 : W2.heap[w.heap.size + 1]? = some (.cells #[.slice none 0 0, .slice none 0 0] 24 (0, 0)) := by rw [hk2 _ (by omega)]; exact hk3
  have hD := checkDR (w := W2) (s := s ++ v) (v := []) (sa := q) (n := n + m) (sc := c) (wa := none) (m := 0) (wc := 0) ⟨HS.out.2.2, rfl, hqc, Nat.le_refl _, hlq2, Lies.nil _ _⟩ (by have := HS.out.2.1; omega) (by omega) (hL.below hF2)
  rw [← HS.out.1] at hD
  clear hW2 hB2 hk2 hk1 hk3 hlq hF1 hqn c0 c1 f0 f1
  obtain ⟨c0, c1, f0, f1⟩ := cellsD hq2
  go_wp2_with fail
  refine hD.mono ?_
  rintro e W3 ⟨rfl, hb3'⟩
  have hF3 := hF2.trans (hb3'.mono hF2.size)
  have hq3 := blkB hq2 hb3'
  have hk33 := blkB hk32 hb3'
  have hlq3 := hlq2.below hb3' (Nat.le_refl _)
  clear hD hq2 hk32 hlq2 hb3' c0 c1 f0 f1
  obtain ⟨c0, c1, f0, f1⟩ := cellsD hq3
  obtain ⟨d0, d1, g0, g1⟩ := cellsD hk33
  by_cases hz : syncCode s v = 0
  · rw [hz]
    have HP := Shut.mk hz
    clear hz
    go_wp2
    obtain ⟨W9, hW9, hb9, hk9, hB9⟩ := box2 W3 (w.heap.size + 1) 24 _ _ (.slice q (n + m) c) (.slice none 0 0) hk33
    rw [hW9]
    have hF9 := hB9 _ _ (by omega) hF3
    have hne : ∀ b o, q = some ⟨b, o, none⟩ → b ≠ w.heap.size + 1 := fun b o e e2 => by have := HQ.out b o e; omega
    have hlq9 := liesFar hlq3 hk9 hne
    clear hW9 hB9 c0 c1 f0 f1 d0 d1 g0 g1
    obtain ⟨c0, c1, f0, f1⟩ := cellsD hb9
    refine bodyPost_ret (v := .tuple #[.agg #[.slice q (n + m) c, .slice none 0 0], .int .i64 0]) (by simp [results, Tryz.results14, go_sem, c0, c1]) rfl ?_
    rw [HP.out]
    exact ⟨DkAnsI.good (s := s ++ v) (v := []) ⟨q, n + m, c, none, 0, 0, rfl, ⟨HS.out.2.2, rfl, hqc, Nat.le_refl _, hlq9, Lies.nil _ _⟩⟩, hF9⟩
  · have bz : (syncCode s v != 0) = true := by simpa using hz
    obtain ⟨z, hzz⟩ : ∃ z, syncCode s v = z := ⟨_, rfl⟩
    have HP : Shut (syncCode s v = z ∧ z ≠ 0) := ⟨hzz, by rw [← hzz]; exact hz⟩
    rw [hzz] at bz ⊢
    clear hz hzz
    go_wp2
    obtain ⟨W9, hW9, hb9, hk9, hB9⟩ := box2 W3 (w.heap.size + 1) 24 _ _ (.slice none 0 0) (.slice none 0 0) hk33
    rw [hW9]
    have hF9 := hB9 _ _ (by omega) hF3
    clear hW9 hB9 c0 c1 f0 f1 d0 d1 g0 g1
    obtain ⟨c0, c1, f0, f1⟩ := cellsD hb9
    refine bodyPost_ret (v := .tuple #[.agg #[.slice none 0 0, .slice none 0 0], .int .i64 z]) (by simp [results, Tryz.results14, go_sem, c0, c1]) rfl ?_
    rw [HP.out.1]
    exact ⟨DkAnsI.bad HP.out.2 rfl, hF9⟩

theorem entersConcatB : ∀ args w, (callFunc 27 args).run Tryz.prog w = .ok (.enter 27 args) w := enters_of Tryz.func27 (by kernel_rfl) rfl

set_option maxHeartbeats 2000000 in
set_option maxRecDepth 8000 in
theorem putOnR (h : DkIn w s v sa n sc wa m wc) (ok : DkOk s v) (r : Rc) (da : Option Addr) (dc : Nat) (ca : Option Addr) (cc : Nat) (hi : r.ints) (ld : r.d.length ≤ maxLen) (hd : Lies w da (bs r.d)) (hc : Lies w ca (bs r.c)) (hL : LaidN w) :
    Calls Tryz.prog 13 #[.agg #[.slice sa n sc, .slice wa m wc], rcV r da dc ca cc] w fun e w' => DkAnsI (putCode s v r) s (v ++ (r.text ++ [10])) e w' ∧ Below w.heap.size w w' := by
  obtain ⟨W, hW⟩ : ∃ W, ((w.alloc (.cells #[.slice sa n sc, .slice wa m wc] 24)).alloc (.cells #[.int .i64 r.k, .int .i64 r.p, .int .i64 r.n, .int .i64 r.y, .int .i64 r.h.F, .int .i64 r.h.Q, .int .i64 r.h.T, .int .i64 r.h.L, .int .i64 r.h.B, .int .i64 r.h.K, .int .i64 r.id, .slice da r.d.length dc, .slice ca r.c.length cc] 33)).alloc (.cells #[.slice none 0 0, .slice none 0 0] 24) = W := ⟨_, rfl⟩
  have hBW : Below w.heap.size w W := by rw [← hW]; exact (((Below.refl _ _).alloc (Nat.le_refl _) _).alloc (by simp) _).alloc (by simp; omega) _
  have hb1 : W.heap[w.heap.size]? = some (.cells #[.slice sa n sc, .slice wa m wc] 24 (0, 0)) := by rw [← hW, heap_alloc_eq, if_neg (by simp; omega), heap_alloc_eq, if_neg (by simp), heap_alloc_eq, if_pos rfl]
  have hb2 : W.heap[w.heap.size + 1]? = some (.cells #[.int .i64 r.k, .int .i64 r.p, .int .i64 r.n, .int .i64 r.y, .int .i64 r.h.F, .int .i64 r.h.Q, .int .i64 r.h.T, .int .i64 r.h.L, .int .i64 r.h.B, .int .i64 r.h.K, .int .i64 r.id, .slice da r.d.length dc, .slice ca r.c.length cc] 33 (0, 0)) := by rw [← hW, heap_alloc_eq, if_neg (by simp), heap_alloc_eq, if_pos (by simp)]
  have hb3 : W.heap[w.heap.size + 1 + 1]? = some (.cells #[.slice none 0 0, .slice none 0 0] 24 (0, 0)) := by rw [← hW, heap_alloc_eq, if_pos (by simp)]
  have hk := h.below hBW
  have hz1 : dkCode s v = 0 := ok.code
  have hok := ok.1
  have e1 := h.hn
  have e2 := h.hm
  have hP := recText_any r da dc ca cc W hi ld (hd.below hBW (Nat.le_refl _)) (hc.below hBW (Nat.le_refl _)) (hL.below hBW)
  simp only [rcV] at hP ⊢
  have HLS := Shut.mk (And.intro h.ls h.hsc)
  clear h hd hc ld hL
  have q0 : W.cell? ⟨w.heap.size + 1, 0, none⟩ = some (.int .i64 r.k) := cellB hb2 0 _ rfl
  have q1 : W.cell? ⟨w.heap.size + 1, 1, none⟩ = some (.int .i64 r.p) := cellB hb2 1 _ rfl
  have q2 : W.cell? ⟨w.heap.size + 1, 2, none⟩ = some (.int .i64 r.n) := cellB hb2 2 _ rfl
  have q3 : W.cell? ⟨w.heap.size + 1, 3, none⟩ = some (.int .i64 r.y) := cellB hb2 3 _ rfl
  have q4 : W.cell? ⟨w.heap.size + 1, 4, none⟩ = some (.int .i64 r.h.F) := cellB hb2 4 _ rfl
  have q5 : W.cell? ⟨w.heap.size + 1, 5, none⟩ = some (.int .i64 r.h.Q) := cellB hb2 5 _ rfl
  have q6 : W.cell? ⟨w.heap.size + 1, 6, none⟩ = some (.int .i64 r.h.T) := cellB hb2 6 _ rfl
  have q7 : W.cell? ⟨w.heap.size + 1, 7, none⟩ = some (.int .i64 r.h.L) := cellB hb2 7 _ rfl
  have q8 : W.cell? ⟨w.heap.size + 1, 8, none⟩ = some (.int .i64 r.h.B) := cellB hb2 8 _ rfl
  have q9 : W.cell? ⟨w.heap.size + 1, 9, none⟩ = some (.int .i64 r.h.K) := cellB hb2 9 _ rfl
  have q10 : W.cell? ⟨w.heap.size + 1, 10, none⟩ = some (.int .i64 r.id) := cellB hb2 10 _ rfl
  have q11 : W.cell? ⟨w.heap.size + 1, 11, none⟩ = some (.slice da r.d.length dc) := cellB hb2 11 _ rfl
  have q12 : W.cell? ⟨w.heap.size + 1, 12, none⟩ = some (.slice ca r.c.length cc) := cellB hb2 12 _ rfl
  go_enter Tryz.func13, Tryz.ntmps13
  go_wp2_with fail
  refine hP.mono ?_
  rintro e W1 ⟨rfl, hB1⟩
  have hF1 := hBW.trans (hB1.mono hBW.size)
  have hk1 := blkB hb1 hB1
  have hk3 := blkB hb3 hB1
  have hd1 := hk.below hB1
  clear hP hW hb2 hk q0 q1 q2 q3 q4 q5 q6 q7 q8 q9 q10 q11 q12
  obtain ⟨c0, c1, f0, f1⟩ := cellsD hk1
  obtain ⟨d0, d1, g0, g1⟩ := cellsD hk3
  by_cases hz : r.code = 0
  · have hpr : r.printed = r.text := by unfold Rc.printed; rw [if_pos hz]
    rw [hz, hpr]
    have htx := text_short hi hz
    obtain ⟨TX, hTX⟩ : ∃ TX : ByteArray, TX = ⟨r.text.toArray⟩ := ⟨_, rfl⟩
    obtain ⟨tl, htl⟩ : ∃ tl, TX.size = tl := ⟨_, rfl⟩
    have htl2 : r.text.length = tl := by rw [← htl, hTX]; simp [ByteArray.size]
    rw [← hTX]
    have HTX := Shut.mk hTX
    have hw1 : IntKind.i64.wrap ((n : Int) + (m : Int)) = (n : Int) + (m : Int) := by rw [IntKind.wrap_i64]; omega
    have hw2 : IntKind.i64.wrap ((n : Int) + (m : Int) + (tl : Int)) = (n : Int) + (m : Int) + (tl : Int) := by rw [IntKind.wrap_i64]; omega
    have hw3 : IntKind.i64.wrap ((n : Int) + (m : Int) + (tl : Int) + 1) = (n : Int) + (m : Int) + (tl : Int) + 1 := by rw [IntKind.wrap_i64]; omega
    have HE := Shut.mk (And.intro e1 (And.intro e2 (And.intro hok (And.intro htl2 htl))))
    by_cases hroom : n + m + (r.text.length + 1) ≤ 60000
    · have HP : Shut (putCode s v r = 0 ∧ n + m + (tl + 1) ≤ 60000) := ⟨by rw [putCode, if_pos hz1, if_pos hz, if_pos (by omega)], by omega⟩
      have hr : decide ((60000 : Int) < (n : Int) + (m : Int) + (tl : Int) + 1) = false := decide_eq_false (by omega)
      clear hz hpr hTX htl2 e1 e2 hok hroom htx hi ok
      have htot : Shut ((v ++ (r.text ++ [10])).length = m + (tl + 1)) := ⟨by rw [List.length_append, List.length_append, List.length_singleton, HE.out.2.1, HE.out.2.2.2.1]⟩
      obtain ⟨LN, hLN⟩ : ∃ LN : ByteArray, LN = ⟨(r.text ++ [10]).toArray⟩ := ⟨_, rfl⟩
      have hcat : (TX ++ ⟨#[10]⟩ : ByteArray) = LN := by rw [HTX.out, hLN]; exact catB r.text [10]
      have hlen : LN.size = tl + 1 := by rw [hLN]; have := HE.out.2.2.2.1; simp [ByteArray.size]; omega
      have HLN := Shut.mk hLN
      clear hLN
      have hb1' : tl ≤ 9223372036854775806 := by have := HP.out.2; omega
      have hb2' : ¬ 9223372036854775807 < tl + 1 := by omega
      have hconv : ∀ W', (convert 9 22 (.string LN)).run Tryz.prog W' = .ok (.slice (some ⟨W'.heap.size, 0, none⟩) LN.size (grownCap W' LN.size 0 5)) (Lib.bytesWorld W' 5 LN) := fun W' => Lib.run_convert_string_bytes W' 9 22 5 LN Tryz.underlying9 Tryz.underlying22 Tryz.underlying5
      rw [hlen] at hconv
      have hbw : ∀ W', Below W'.heap.size W' (Lib.bytesWorld W' 5 LN) := fun W' => Joins.below_bytesWorld _ W' _ LN (Nat.le_refl _)
      have hlw : ∀ W', Lies (Lib.bytesWorld W' 5 LN) (some ⟨W'.heap.size, 0, none⟩) (bs (r.text ++ [10])) := fun W' => by rw [HLN.out]; exact lies_bytesWorld W' _
      have HR4 : ∀ W', Below W1.heap.size W1 W' → W'.cell? ⟨w.heap.size, 0, none⟩ = some (.slice sa n sc) ∧ W'.cell? ⟨w.heap.size, 1, none⟩ = some (.slice wa m wc) ∧ W'.cell? ⟨w.heap.size + 1 + 1, 0, none⟩ = some (.slice none 0 0) ∧ W'.cell? ⟨w.heap.size + 1 + 1, 1, none⟩ = some (.slice none 0 0) ∧ W'.frozen? ⟨w.heap.size + 1 + 1, 0, none⟩ = false ∧ W'.frozen? ⟨w.heap.size + 1 + 1, 1, none⟩ = false := fun W' hb => ⟨(cellsD (blkB hk1 hb)).1, (cellsD (blkB hk1 hb)).2.1, cellsD (blkB hk3 hb)⟩
      have hCt : ∀ W' B, Below W1.heap.size W1 W' → B = W'.heap.size → Calls Tryz.prog 27 #[.slice (some ⟨(Lib.bytesWorld W' 5 LN).heap.size, 0, none⟩) 2 2] ((Lib.bytesWorld W' 5 LN).alloc (.cells #[.slice wa m wc, .slice (some ⟨B, 0, none⟩) (tl + 1) (grownCap W' (tl + 1) 0 5)] 22)) fun e w' => ∃ x, e = .returned x ∧ (∃ q c, x = .slice q (m + (tl + 1)) c ∧ Lies w' q (bs (v ++ (r.text ++ [10]))) ∧ m + (tl + 1) ≤ c ∧ (∀ b o, q = some ⟨b, o, none⟩ → W1.heap.size ≤ b)) ∧ Below W1.heap.size W1 w' := fun W' B hb hB => by
        subst hB
        have hx : Below (Lib.bytesWorld W' 5 LN).heap.size (Lib.bytesWorld W' 5 LN) ((Lib.bytesWorld W' 5 LN).alloc (.cells #[.slice wa m wc, .slice (some ⟨W'.heap.size, 0, none⟩) (tl + 1) (grownCap W' (tl + 1) 0 5)] 22)) := (Below.refl _ _).alloc (Nat.le_refl _) _
        have hy := hb.trans ((hbw W').mono hb.size)
        have hz := hy.trans (hx.mono hy.size)
        refine (catB2 (ca := wc) (cb := grownCap W' (tl + 1) 0 5) HE.out.2.1 (show (r.text ++ [10]).length = tl + 1 by rw [List.length_append, List.length_singleton, HE.out.2.2.2.1]) (by have := HP.out.2; omega) (hd1.lv.below hz (Nat.le_refl _)) ((hlw W').below hx (Nat.le_refl _)) ⟨(Lib.bytesWorld W' 5 LN).heap.size, 0, none⟩ (Lies.alloc_new _ _ _)).mono ?_
        rintro e w' ⟨q, c, rfl, h1, h2, h3, h4⟩
        exact ⟨_, rfl, ⟨q, c, rfl, h1, h2, fun b o e => Nat.le_trans hz.size (h4 b o e)⟩, hz.trans (h3.mono hz.size)⟩
      have B0 : Below W1.heap.size W1 W1.drew := (Below.refl _ _).drew
      have hcC := hCt _ _ B0 rfl
      clear hz1
      go_upto_region 6 with fail
      have B1 : Below W1.heap.size W1 (Lib.bytesWorld W1.drew 5 LN) := B0.trans (hbw W1.drew)
      have B2 : Below W1.heap.size W1 ((Lib.bytesWorld W1.drew 5 LN).alloc (.cells #[.slice wa m wc, .slice (some ⟨W1.heap.size, 0, none⟩) (tl + 1) (grownCap W1.drew (tl + 1) 0 5)] 22)) := B1.alloc B1.size _
      obtain ⟨k0, k1, k2, k3, k4, k5⟩ := HR4 _ B0
      obtain ⟨l0, l1, l2, l3, l4, l5⟩ := HR4 _ B1
      obtain ⟨m0, m1, m2, m3, m4, m5⟩ := HR4 _ B2
      have egC := entersConcatB
      go_region_law (refine step_call1 entersConcatB rfl (.tmp 37) 77 rfl _ rfl hcC ?_; rintro _ wj ⟨⟨qj, cj, rfl, hlj, hcj, hfj⟩, hbj⟩; obtain ⟨y0, y1, y2, y3, y4, y5⟩ := HR4 _ hbj)
      all_goals
        have hkr := blkB hk3 hbj
        have hF5 := hF1.trans (hbj.mono hF1.size)
        have hlt : w.heap.size + 1 + 1 < W1.heap.size := (Array.getElem?_eq_some_iff.1 hk3).1
        clear hcC hCt HR4 hconv hbw hlw B0 B1 B2 k0 k1 k2 k3 k4 k5 l0 l1 l2 l3 l4 l5 m0 m1 m2 m3 m4 m5 y0 y1 y2 y3 y4 y5 egC c0 c1 f0 f1 d0 d1 g0 g1 hcat
        go_wp2
        obtain ⟨W9, hW9, hb9, hk9, hB9⟩ := box2 wj (w.heap.size + 1 + 1) 24 _ _ (.slice sa n sc) (.slice qj (m + (tl + 1)) cj) hkr
        rw [hW9]
        have hF9 := hB9 _ _ (by omega) hF5
        clear hW9 hB9
        obtain ⟨c0, c1, f0, f1⟩ := cellsD hb9
        refine bodyPost_ret (v := .tuple #[.agg #[.slice sa n sc, .slice qj (m + (tl + 1)) cj], .int .i64 0]) (by simp [results, Tryz.results13, go_sem, c0, c1]) rfl ?_
        rw [HP.out.1]
        exact ⟨DkAnsI.good ⟨sa, n, sc, qj, _, cj, rfl, ⟨HE.out.1, htot.out, HLS.out.2, hcj, HLS.out.1.below hF9 (Nat.le_refl _), liesFar hlj hk9 (fun b o e => by have := hfj b o e; omega)⟩⟩, hF9⟩
    · have HP : Shut (putCode s v r = 2) := ⟨by rw [putCode, if_pos hz1, if_pos hz, if_neg (by omega)]⟩
      have hr : (60000 : Int) < (n : Int) + (m : Int) + (tl : Int) + 1 := by omega
      clear hz hpr hTX htl2 e1 e2 hok hroom htx hz1 hi ok
      go_wp2
      obtain ⟨W9, hW9, hb9, hk9, hB9⟩ := box2 W1 (w.heap.size + 1 + 1) 24 _ _ (.slice none 0 0) (.slice none 0 0) hk3
      rw [hW9]
      have hF9 := hB9 _ _ (by omega) hF1
      clear hW9 hB9 c0 c1 f0 f1 d0 d1 g0 g1
      obtain ⟨c0, c1, f0, f1⟩ := cellsD hb9
      refine bodyPost_ret (v := .tuple #[.agg #[.slice none 0 0, .slice none 0 0], .int .i64 2]) (by simp [results, Tryz.results13, go_sem, c0, c1]) rfl ?_
      exact ⟨by rw [HP.out]; exact DkAnsI.bad (by decide) rfl, hF9⟩
  · have bz : (r.code != 0) = true := by simpa using hz
    have HP : Shut (putCode s v r = r.code ∧ r.code ≠ 0) := ⟨by rw [putCode, if_pos hz1, if_neg hz], hz⟩
    clear hz
    generalize r.code = z at bz HP ⊢
    go_wp2
    obtain ⟨W9, hW9, hb9, hk9, hB9⟩ := box2 W1 (w.heap.size + 1 + 1) 24 _ _ (.slice none 0 0) (.slice none 0 0) hk3
    rw [hW9]
    have hF9 := hB9 _ _ (by omega) hF1
    clear hW9 hB9 c0 c1 f0 f1 d0 d1 g0 g1
    obtain ⟨c0, c1, f0, f1⟩ := cellsD hb9
    refine bodyPost_ret (v := .tuple #[.agg #[.slice none 0 0, .slice none 0 0], .int .i64 z]) (by simp [results, Tryz.results13, go_sem, c0, c1]) rfl ?_
    exact ⟨by rw [HP.out.1]; exact DkAnsI.bad HP.out.2 rfl, hF9⟩

end

end Go.Proofs.YtekdigbdfeamkaaGreatDoor

/-
  Chapter 8: slices.Grow of nothing and slices.Concat at records: the contract of each.
-/
namespace Go.Proofs.YtekdigbdfeamkaaGreatDoor
open Go.RowKit
set_option linter.unusedVariables false
set_option linter.unusedSimpArgs false

/-- a list of records in memory -/
structure RBlk where
  a : Option Addr
  cap : Nat
  l : List MRec

def RBlk.val (b : RBlk) : Value := .slice b.a b.l.length b.cap

theorem zeroCells_size13 (c : Array Value) (hc : c.size = 13) (n : Nat) : (Builtin.zeroCells c n).size = n * 13 := by simp [Builtin.zeroCells, hc]

theorem own_slice13 {w : World} {B : Nat} {e : TypeId} {v : Value} {n : Nat} {xs : List Value} (h : w.ownsRow B e 13 v n xs) : ∃ a cap, v = .slice a n cap ∧ n ≤ cap := by
  rcases h.2 with ⟨rfl, h0⟩ | ⟨g, cap, cur, rfl, hb, hg, hnc, hcm, hcs, htake⟩
  · exact ⟨none, 0, by rw [h0], by omega⟩
  · exact ⟨_, _, rfl, hnc⟩

theorem own_none13 {w : World} {B : Nat} {e : TypeId} {n q : Nat} {xs : List Value} (h : w.ownsRow B e 13 (.slice none n q) n xs) : q = 0 := by
  rcases h.2 with ⟨e1, h0⟩ | ⟨g, cap, cur, e1, hb, hg, hnc, hcm, hcs, htake⟩
  · simp at e1
    exact e1.2
  · simp at e1

set_option maxRecDepth 8000 in
set_option maxHeartbeats 1000000 in
theorem growR_nil (s : Nat) (w : World) (hs : s ≤ 65536) :
    Calls Tryz.prog 42 #[.slice none 0 0, .int .i64 s] w fun e w' => ∃ v, e = .returned v ∧ w'.ownsRow w.heap.size 33 13 v 0 [] ∧ Below w.heap.size w w' := by
  obtain ⟨i0, hi, hz0, hz1, hz2⟩ := info_parts infoRec
  by_cases h0 : s = 0
  · subst h0
    go_enter Tryz.func42, Tryz.ntmps42
    go_wp2
    go_ret
    exact ⟨_, rfl, World.ownsRow_nil _ _ _ _, Below.refl _ _⟩
  · have h1 : 0 < s := by omega
    have h2 : (0 : Int) < (s : Int) := by omega
    clear h0
    have hrz : ∀ ty, (Builtin.append_ #[39, 3] ty #[.slice none 0 0, .int .i64 s]).run Tryz.prog w = .ok (.slice (some ⟨w.heap.size, 0, none⟩) s (grownCap w s 0 33)) (w.drew.alloc (.cells (Builtin.zeroCells #[.int .i64 0, .int .i64 0, .int .i64 0, .int .i64 0, .int .i64 0, .int .i64 0, .int .i64 0, .int .i64 0, .int .i64 0, .int .i64 0, .int .i64 0, .slice none 0 0, .slice none 0 0] s ++ Builtin.zeroCells #[.int .i64 0, .int .i64 0, .int .i64 0, .int .i64 0, .int .i64 0, .int .i64 0, .int .i64 0, .int .i64 0, .int .i64 0, .int .i64 0, .int .i64 0, .slice none 0 0, .slice none 0 0] (grownCap w s 0 33 - s)) 33)) := fun ty =>
      Lib.run_append_nil_zeros w 39 3 ty 33 i0 (rcV rc0 none 0 none 0) .i64 .i64 Tryz.underlying39 Tryz.underlying3 hi hz0 s h1 (by omega) (by omega) (by rw [hz2]; omega)
    have hGn : s ≤ grownCap w s 0 33 := grownCap_ge w _ _ _
    have hG63 := grownCap_le_maxLen w s 0 33 (by unfold maxLen; omega)
    have HR : Hid ((w.drew.alloc (.cells (Builtin.zeroCells #[.int .i64 0, .int .i64 0, .int .i64 0, .int .i64 0, .int .i64 0, .int .i64 0, .int .i64 0, .int .i64 0, .int .i64 0, .int .i64 0, .int .i64 0, .slice none 0 0, .slice none 0 0] s ++ Builtin.zeroCells #[.int .i64 0, .int .i64 0, .int .i64 0, .int .i64 0, .int .i64 0, .int .i64 0, .int .i64 0, .int .i64 0, .int .i64 0, .int .i64 0, .int .i64 0, .slice none 0 0, .slice none 0 0] (grownCap w s 0 33 - s)) 33)).ownsRow w.heap.size 33 13 (.slice (some ⟨w.heap.size, 0, none⟩) 0 (grownCap w s 0 33)) 0 []) :=
      ⟨rfl, .inr ⟨w.heap.size, _, _, rfl, Nat.le_refl _, (heap_alloc_eq w.drew _ _).trans (if_pos rfl), Nat.zero_le _, hG63, by rw [Array.size_append, zeroCells_size13 _ rfl, zeroCells_size13 _ rfl]; omega, rfl⟩⟩
    generalize grownCap w s 0 33 = G at *
    unfold maxLen at hG63
    have hG : (G : Int) ≤ 9223372036854775807 := by omega
    clear hG63
    go_enter Tryz.func42, Tryz.ntmps42
    go_wp2_with (at_builtin; refine Lib.wpList_append_run _ rfl _ _ _ _ rfl _ _ rfl rfl _ _ (hrz _) ?_)
    all_goals
      go_ret
      exact ⟨_, rfl, HR.out, (Below.refl _ _).drew.alloc (Nat.le_refl _) _⟩

/-- how many bytes the first m have -/
def totR (bl : List RBlk) (m : Nat) : Nat := (((bl.map RBlk.l).take m).flatten).length

theorem totR_succ {bl : List RBlk} {m : Nat} (h : m < bl.length) : totR bl (m + 1) = totR bl m + bl[m].l.length := by
  unfold totR
  rw [List.take_succ_eq_append_getElem (by simpa using h)]
  simp

theorem totR_le (bl : List RBlk) (m : Nat) : totR bl m ≤ ((bl.map RBlk.l).flatten).length := by
  unfold totR
  have h := congrArg (fun l => l.flatten.length) (List.take_append_drop m (bl.map RBlk.l))
  simp only [List.flatten_append, List.length_append] at h
  omega

theorem concatR_step {w wr w1 : World} {v v' : Value} {bl : List RBlk} {m : Nat} (hlt : m < bl.length) (hb : Below w.heap.size w wr) (ho : wr.ownsRow w.heap.size 33 13 v (totR bl m) (recCells ((bl.map RBlk.l).take m).flatten))
    (ho' : w1.ownsRow w.heap.size 33 13 v' (totR bl m + bl[m].l.length) (recCells ((bl.map RBlk.l).take m).flatten ++ recCells bl[m].l)) (hg : wr.grownBy w1 v.ownBlock) :
    w1.ownsRow w.heap.size 33 13 v' (totR bl (m + 1)) (recCells ((bl.map RBlk.l).take (m + 1)).flatten) ∧ Below w.heap.size w w1 := by
  refine ⟨?_, hb.grown hg hb.size fun g hg' => (ho.lt g hg').1⟩
  rw [totR_succ hlt, List.take_succ_eq_append_getElem (by simpa using hlt)]
  simpa [recCells] using ho'

theorem liesR_none {w : World} {l : List MRec} (h : Lies w none (recCells l)) : l = [] := by
  cases l with
  | nil => rfl
  | cons x r =>
    obtain ⟨_, _, e, _⟩ := h 0 _ (by simp [recCells, MRec.cells]; rfl)
    simp at e

theorem liesR_add {w : World} {ad : Addr} {l : List MRec} (h : Lies w (some ad) (recCells l)) : ∀ j u, (recCells l)[j]? = some u → w.cell? (ad.add j) = some u := by
  intro j u hu
  obtain ⟨b, o, e, hc⟩ := h j u hu
  simp at e
  subst e
  simpa [Addr.add_lit] using hc

set_option maxRecDepth 8000 in
set_option maxHeartbeats 1000000 in
theorem concatR_any (a : Option Addr) (cap : Nat) (bl : List RBlk) (w : World) (hn : bl.length ≤ maxLen) (htot : ((bl.map RBlk.l).flatten).length ≤ 65536) (ha : Lies w a (bl.map RBlk.val)) (hall : ∀ b ∈ bl, Lies w b.a (recCells b.l)) :
    Calls Tryz.prog 28 #[.slice a bl.length cap] w fun e w' => ∃ v, e = .returned v ∧ w'.ownsRow w.heap.size 33 13 v ((bl.map RBlk.l).flatten).length (recCells (bl.map RBlk.l).flatten) ∧ Below w.heap.size w w' := by
  obtain ⟨i0, hi, hz0, hz1, hz2⟩ := info_parts infoRec
  have HT : Hid (((bl.map RBlk.l).flatten).length ≤ 65536) := htot
  unfold maxLen at hn
  clear htot
  go_enter Tryz.func28, Tryz.ntmps28
  go_wp2
  go_loop [3, 11] (fun c i => ∃ m : Nat, m ≤ bl.length ∧ i = .int .i64 m ∧ c = .int .i64 (totR bl m)) (fun _ i => bl.length - (intOf i).toNat)
  case atStart => exact ⟨0, Nat.zero_le _, rfl, rfl⟩
  case round =>
    obtain ⟨m, hm, rfl, rfl⟩ := hrel
    by_cases hlt : m < bl.length
    · obtain ⟨b1, o1, rfl⟩ := ha.some (k := m) (by simpa using hlt)
      have h1 : w.cell? ⟨b1, o1 + m, none⟩ = some (.slice bl[m].a bl[m].l.length bl[m].cap) := ha.at (by simp [hlt, RBlk.val])
      have hs := totR_succ hlt
      have hle := totR_le bl (m + 1)
      have := HT.out
      have hb1 : totR bl m ≤ 65536 := by omega
      have hb2 : bl[m].l.length ≤ 65536 := by omega
      have HS : Hid (totR bl (m + 1) = totR bl m + bl[m].l.length) := hs
      clear hs hle this
      go_wp2
      go_round
      case rel => exact ⟨m + 1, by omega, by go_num, congrArg (Value.int .i64) (by rw [HS.out]; simp)⟩
      case measure => simp [intOf]; omega
    · have HM : Hid (m = bl.length) := by have : m = bl.length := by omega
                                          exact this
      have hle := totR_le bl m
      have := HT.out
      have hb1 : totR bl m ≤ 65536 := by omega
      clear hle this
      go_wp2_with fail
      refine (growR_nil _ _ hb1).mono ?_
      rintro e w1 ⟨v1, rfl, ho1, hb⟩
      clear hb1
      go_wp2
      go_loopw [6, 27] (fun v i wr => ∃ m : Nat, m ≤ bl.length ∧ i = .int .i64 m ∧ wr.ownsRow w.heap.size 33 13 v (totR bl m) (recCells ((bl.map RBlk.l).take m).flatten) ∧ Below w.heap.size w wr) (fun _ i _ => bl.length - (intOf i).toNat)
      case atStart => exact ⟨0, Nat.zero_le _, rfl, ho1, hb⟩
      case round =>
        clear ho1 hb
        obtain ⟨m, hm, rfl, hown, hbw⟩ := hrel
        by_cases hlt : m < bl.length
        · obtain ⟨b1, o1, rfl⟩ := ha.some (k := m) (by simpa using hlt)
          have h1 : wr.cell? ⟨b1, o1 + m, none⟩ = some (.slice bl[m].a bl[m].l.length bl[m].cap) := (ha.below hbw (Nat.le_refl _)).at (by simp [hlt, RBlk.val])
          have hla := (hall bl[m] (by simp)).below hbw (Nat.le_refl _)
          have hsz := hbw.size
          have hs := totR_succ hlt
          have hle := totR_le bl (m + 1)
          have := HT.out
          have hb1 : totR bl m + bl[m].l.length ≤ 65536 := by omega
          have HS : Hid (totR bl (m + 1) = totR bl m + bl[m].l.length) := hs
          clear hs hle this
          cases had : bl[m].a with
          | none =>
            rw [had] at h1 hla
            have HE : Hid (bl[m].l = []) := liesR_none hla
            have h0 : bl[m].l.length = 0 := by rw [HE.out]; rfl
            rw [h0] at h1
            obtain ⟨p6, q6, rfl, hq6⟩ := own_slice13 hown
            have hq : p6 = none → q6 = 0 := fun e => by subst e; exact own_none13 hown
            have R : Hid (wr.ownsRow w.heap.size 33 13 (.slice p6 (totR bl m) q6) (totR bl (m + 1)) (recCells ((bl.map RBlk.l).take (m + 1)).flatten)) := by
              show wr.ownsRow w.heap.size 33 13 (.slice p6 (totR bl m) q6) (totR bl (m + 1)) (recCells ((bl.map RBlk.l).take (m + 1)).flatten)
              rw [HS.out, List.take_succ_eq_append_getElem (by simpa using hlt)]
              simpa [h0, HE.out] using hown
            clear had hla h0 hown hb1
            go_wp2_with (first | (at_builtin; refine Lib.wpList_append_run _ rfl _ _ _ _ rfl _ _ rfl rfl _ _ (run_append_nothing _ _ _ 33 i0 Tryz.underlying39 hi _ _ _ _ hq6) ?_) | go_in)
            go_roundw
            case rel => exact ⟨m + 1, by omega, by go_num, R.out, hbw⟩
            case measure => simp [intOf]; omega
          | some ad =>
            rw [had] at h1 hla
            clear had
            go_wp2_with (first | (at_builtin; refine wpList_append_own _ rfl _ _ 39 rfl w.heap.size 33 i0 (rcV rc0 none 0 none 0) 13 136 Tryz.underlying39 hi hz0 hz1 hz2 rfl (by decide) _ _ _ rfl hown ad bl[m].l.length bl[m].cap (recCells bl[m].l) rfl ?c0 ?c1 ?c2 ?c3 ?c4 ?c5 ?_) | go_in)
            case c0 => rw [recCells_length]; omega
            case c1 => exact liesR_add hla
            case c2 =>
              intro u hu
              obtain ⟨x, _, hx⟩ := List.mem_flatMap.1 hu
              exact List.all_eq_true.1 (show List.all x.cells (fun v => v.oneCell') = true from rfl) u hx
            case c3 => unfold maxLen; omega
            case c4 => omega
            case c5 => omega
            intro v' w1 hown' hgrow _
            have R := concatR_step hlt hbw hown hown' hgrow
            clear hown' hgrow hown hbw h1 hla
            go_wp2
            go_roundw
            case rel => exact ⟨m + 1, by omega, by go_num, R.1, R.2⟩
            case measure => simp [intOf]; omega
        · have HK : Hid (m = bl.length) := by have : m = bl.length := by omega
                                              exact this
          go_wp2
          go_ret
          refine ⟨_, rfl, ?_, hbw⟩
          have hk := HK.out
          subst hk
          unfold totR at hown
          rwa [List.take_of_length_le (by simp)] at hown

end Go.Proofs.YtekdigbdfeamkaaGreatDoor

/-
  Chapter 8, the reference: Recovered.
-/
namespace Go.Proofs.YtekdigbdfeamkaaGreatDoor
open Go.RowKit
set_option linter.unusedVariables false
set_option linter.unusedSimpArgs false

theorem liesNew {w : World} {c : Array Value} {T : TypeId} {l : List Value} {b : Nat} (hb : b = w.heap.size) (hl : c.toList = l) : Lies (w.alloc (.cells c T)) (some ⟨b, 0, none⟩) l := by
  subst hb hl
  exact Lies.alloc_new _ _ _

theorem belowAlloc {w W : World} {o : Obj} (h : Below w.heap.size w W) : Below w.heap.size w (W.alloc o) := h.alloc h.size o

/-- two lists of records, joined -/
theorem catR2 {w : World} {a b : Option Addr} {x y ca cb : Nat} {xs ys : List MRec} (h1 : xs.length = x) (h2 : ys.length = y) (hx : x + y ≤ 60000) (ha : Lies w a (recCells xs)) (hb : Lies w b (recCells ys)) (p : Addr) (hp : Lies w (some p) [.slice a x ca, .slice b y cb]) :
    Calls Tryz.prog 28 #[.slice (some p) 2 2] w fun e w' => ∃ q c, e = .returned (.slice q (x + y) c) ∧ Lies w' q (recCells (xs ++ ys)) ∧ x + y ≤ c ∧ Below w.heap.size w w' ∧ ∀ b o, q = some ⟨b, o, none⟩ → w.heap.size ≤ b := by
  subst h1 h2
  have hin : ∀ k ∈ [(⟨a, ca, xs⟩ : RBlk), ⟨b, cb, ys⟩], Lies w k.a (recCells k.l) := by
    intro k hk
    rcases List.mem_cons.1 hk with rfl | hk
    · exact ha
    · obtain rfl : k = ⟨b, cb, ys⟩ := by simpa using hk
      exact hb
  refine (concatR_any (some p) 2 [⟨a, ca, xs⟩, ⟨b, cb, ys⟩] w (by unfold maxLen; simp) (by simp; omega) hp hin).mono ?_
  rintro e w' ⟨v, rfl, ho, hB⟩
  have ho' : w'.ownsRow w.heap.size 33 13 v (xs ++ ys).length (recCells (xs ++ ys)) := by simpa using ho
  obtain ⟨q, c, rfl, hl, hc⟩ := own_recs ho'
  rw [List.length_append] at hc
  exact ⟨q, c, by rw [List.length_append], hl, hc, hB, fun b o e => (ho'.lt b (by rw [e]; rfl)).1⟩

theorem entersConcatR : ∀ args w, (callFunc 28 args).run Tryz.prog w = .ok (.enter 28 args) w := enters_of Tryz.func28 (by kernel_rfl) rfl

/-- the lines of a right disk, and those that wait -/
theorem lines_both {s v : List UInt8} (ok : DkOk s v) : (linesL 200 s).1.length ≤ 200 ∧ linesL 200 (s ++ v) = ((linesL 200 s).1 ++ (linesL (200 - (linesL 200 s).1.length) v).1, s.length + (linesL (200 - (linesL 200 s).1.length) v).2.1, (linesL (200 - (linesL 200 s).1.length) v).2.2) := by
  obtain ⟨h1, h2, h3, h4, h5⟩ := linesL_back _ 200 s (Nat.lt_succ_self _)
  have h6 := h5 ok.2
  rw [h6, List.take_length] at h4
  refine ⟨h2, ?_⟩
  have := linesL_text (linesL 200 s).1 200 v h1 h2
  rw [← h4] at this
  exact this

/-- what Recovered leaves -/
def RvOut (t : List UInt8) (l : List Rc) (e : Ending) (w' : World) : Prop :=
  ∃ (L : List MRec) (q : Nat) (p : Option Addr) (cp : Nat) (sa : Option Addr) (n sc : Nat), e = .returned (.tuple #[.agg #[.slice sa n sc, .slice none 0 0], .slice p q cp]) ∧ L.length = q ∧ DkIn w' t [] sa n sc none 0 0 ∧ L.map MRec.r = l ∧ q ≤ cp ∧ Lies w' p (recCells L) ∧ ∀ y ∈ L, RecIn w' y

section
variable {w : World} {s v : List UInt8} {sa : Option Addr} {n sc : Nat} {wa : Option Addr} {m wc : Nat}

set_option maxHeartbeats 2000000 in
set_option maxRecDepth 8000 in
theorem recoveredR (h : DkIn w s v sa n sc wa m wc) (ok : DkOk s v) (hL : LaidN w) :
    Calls Tryz.prog 15 #[.agg #[.slice sa n sc, .slice wa m wc]] w fun e w' => RvOut ((s ++ v).take (linesL 200 (s ++ v)).2.1) (linesL 200 (s ++ v)).1 e w' ∧ Below w.heap.size w w' := by
  obtain ⟨W, hW⟩ : ∃ W, (w.alloc (.cells #[.slice sa n sc, .slice wa m wc] 24)).alloc (.cells #[.slice none 0 0, .slice none 0 0] 24) = W := ⟨_, rfl⟩
  have hBW : Below w.heap.size w W := by rw [← hW]; exact ((Below.refl _ _).alloc (Nat.le_refl _) _).alloc (by simp) _
  have hb1 : W.heap[w.heap.size]? = some (.cells #[.slice sa n sc, .slice wa m wc] 24 (0, 0)) := by rw [← hW, heap_alloc_eq, if_neg (by simp), heap_alloc_eq, if_pos rfl]
  have hb3 : W.heap[w.heap.size + 1]? = some (.cells #[.slice none 0 0, .slice none 0 0] 24 (0, 0)) := by rw [← hW, heap_alloc_eq, if_pos (by simp)]
  have hk := h.below hBW
  have hok := ok.1
  have e1 := h.hn
  have e2 := h.hm
  obtain ⟨hfew, hboth⟩ := lines_both ok
  rw [hboth]
  have hsz := linesL_size (200 - (linesL 200 s).1.length) v
  have hcv := convBytes (c := sc) hk.ls e1
  have hD := linesOf_any ⟨s.toArray⟩ 200 (Nat.le_refl _) W (by show s.toArray.size ≤ 60000; simp; omega) (hL.below hBW)
  rw [show ((200 : Nat) : Int) = 200 from rfl] at hD
  simp only at hD
  obtain ⟨A, hA⟩ : ∃ A, linesL 200 s = A := ⟨_, rfl⟩
  rw [hA] at hfew hboth hsz ⊢
  obtain ⟨Bv, hBv⟩ : ∃ Bv, linesL (200 - A.1.length) v = Bv := ⟨_, rfl⟩
  rw [hBv] at hsz ⊢
  have HBV := Shut.mk hBv
  have HA := Shut.mk hA
  have HOK := Shut.mk (And.intro hok (And.intro e1 (And.intro e2 h.hsc)))
  have HH := Shut.mk h
  obtain ⟨c0, c1, f0, f1⟩ := cellsD hb1
  clear hboth hok hA h hk ok e1 e2 hBv
  go_enter Tryz.func15, Tryz.ntmps15
  go_wp2_with fail
  refine hD.mono ?_
  rintro e W1 ⟨hB1, L1, p1, cp1, rfl, hm1, hc1, hl1, ha1, -⟩
  have hF1 := hBW.trans (hB1.mono hBW.size)
  have hltW : w.heap.size + 1 + 1 ≤ W.heap.size := (Array.getElem?_eq_some_iff.1 hb3).1
  have hB1s := hB1.size
  have hk1 := blkB hb1 hB1
  have hk3 := blkB hb3 hB1
  rw [HA.out] at hm1 ⊢
  have hL1 : L1.length = A.1.length := by rw [← hm1, List.length_map]
  clear hD hcv c0 c1 f0 f1 hW hb1 hb3 hB1
  have hd1 := HH.out.below hF1
  have hcv2 := convBytes (c := wc) hd1.lv HOK.out.2.2.1
  have hD2 := linesOf_any ⟨v.toArray⟩ (200 - A.1.length) (Nat.sub_le _ _) W1 (by show v.toArray.size ≤ 60000; simp; have := HOK.out.1; omega) (hL.below hF1)
  simp only at hD2
  obtain ⟨a1, ha1'⟩ : ∃ a1, A.1.length = a1 := ⟨_, rfl⟩
  rw [ha1'] at hL1 hfew hD2
  have hw1 : IntKind.i64.wrap (200 - (a1 : Int)) = ((200 - a1 : Nat) : Int) := by rw [IntKind.wrap_i64]; omega
  have HA1 := Shut.mk ha1'
  have HL1 := Shut.mk hL1
  rw [hL1] at hc1 ⊢
  obtain ⟨c0, c1, f0, f1⟩ := cellsD hk1
  generalize A.2.1 = j1
  generalize A.2.2 = j2
  clear ha1' hL1
  go_wp2_with fail
  refine hD2.mono ?_
  rintro e W2 ⟨hB2, L2, p2, cp2, rfl, hm2, hc2, hl2, ha2, -⟩
  have hF2 := hF1.trans (hB2.mono hF1.size)
  rw [show linesL (200 - a1) v = Bv from by rw [← HA1.out]; exact HBV.out] at hm2 ⊢
  have hk2 := blkB hk1 hB2
  have hk4 := blkB hk3 hB2
  have hL2 : L2.length = Bv.1.length := by rw [← hm2, List.length_map]
  obtain ⟨b1, hb1⟩ : ∃ b1, Bv.1.length = b1 := ⟨_, rfl⟩
  obtain ⟨k, hkk⟩ : ∃ k, Bv.2.1 = k := ⟨_, rfl⟩
  obtain ⟨j3, hj3⟩ : ∃ j3, Bv.2.2 = j3 := ⟨_, rfl⟩
  rw [hb1] at hL2
  rw [hkk, hj3]
  rw [hkk] at hsz
  have hb200 : b1 ≤ 200 - a1 := by
    have := (linesL_back _ (200 - A.1.length) v (Nat.lt_succ_self _)).2.1
    rw [HBV.out, hb1, HA1.out] at this
    exact this
  have HL2 := Shut.mk hL2
  rw [hL2] at hc2 ⊢
  have hd2 := HH.out.below hF2
  have hkm : k ≤ m := by have := HOK.out.2.2.1; omega
  have hkw : k ≤ wc := by have := hd2.hwc; omega
  have hnk : n + k ≤ 60000 := by have := HOK.out.1; have := HOK.out.2.1; have := HOK.out.2.2.1; omega
  have hvt : (v.take k).length = k := by rw [List.length_take]; omega
  have HKK := Shut.mk (And.intro hb1 (And.intro hkk hvt))
  have hCb : ∀ (W' : World) (a : Addr), Below W2.heap.size W2 W' → Lies W' (some a) [.slice sa n sc, .slice wa k wc] → Calls Tryz.prog 27 #[.slice (some a) 2 2] W' fun e w' => ∃ x, e = .returned x ∧ (∃ q c, x = .slice q (n + k) c ∧ Lies w' q (bs (s ++ v.take k)) ∧ n + k ≤ c ∧ (∀ b o, q = some ⟨b, o, none⟩ → W2.heap.size ≤ b)) ∧ Below W'.heap.size W' w' ∧ Below W2.heap.size W2 w' := fun W' a hb hl =>
    (catB2 (ca := sc) (cb := wc) HOK.out.2.1 HKK.out.2.2 (by omega) (hd2.ls.below hb (Nat.le_refl _)) (lies_takeB k (hd2.lv.below hb (Nat.le_refl _))) a hl).mono fun e w' h => by
      obtain ⟨q, c, h1, h2, h3, h4, h5⟩ := h
      exact ⟨_, h1, ⟨q, c, rfl, h2, h3, fun b o e => Nat.le_trans hb.size (h5 b o e)⟩, h4, hb.trans (h4.mono hb.size)⟩
  have hCr : ∀ (W' : World) (a : Addr), Below W2.heap.size W2 W' → Lies W' (some a) [.slice p1 a1 cp1, .slice p2 b1 cp2] → Calls Tryz.prog 28 #[.slice (some a) 2 2] W' fun e w' => ∃ x, e = .returned x ∧ (∃ q c, x = .slice q (a1 + b1) c ∧ Lies w' q (recCells (L1 ++ L2)) ∧ a1 + b1 ≤ c ∧ ∀ b o, q = some ⟨b, o, none⟩ → W2.heap.size ≤ b) ∧ Below W'.heap.size W' w' ∧ Below W2.heap.size W2 w' := fun W' a hb hl =>
    (catR2 (ca := cp1) (cb := cp2) HL1.out HL2.out (by omega) ((hl1.below hB2 (Nat.le_refl _)).below hb (Nat.le_refl _)) (hl2.below hb (Nat.le_refl _)) a hl).mono fun e w' h => by
      obtain ⟨q, c, h1, h2, h3, h4, h5⟩ := h
      exact ⟨_, h1, ⟨q, c, rfl, h2, h3, fun b o e => Nat.le_trans hb.size (h5 b o e)⟩, h4, hb.trans (h4.mono hb.size)⟩
  have HR : ∀ W' : World, Below W2.heap.size W2 W' → W'.cell? ⟨w.heap.size, 0, none⟩ = some (.slice sa n sc) ∧ W'.cell? ⟨w.heap.size, 1, none⟩ = some (.slice wa m wc) ∧ W'.cell? ⟨w.heap.size + 1, 0, none⟩ = some (.slice none 0 0) ∧ W'.cell? ⟨w.heap.size + 1, 1, none⟩ = some (.slice none 0 0) ∧ W'.frozen? ⟨w.heap.size + 1, 0, none⟩ = false ∧ W'.frozen? ⟨w.heap.size + 1, 1, none⟩ = false := fun W' hb => ⟨(cellsD (blkB hk2 hb)).1, (cellsD (blkB hk2 hb)).2.1, cellsD (blkB hk4 hb)⟩
  have HALL : Shut (∀ y ∈ L1 ++ L2, RecIn W2 y) := ⟨fun y hy => (List.mem_append.1 hy).elim (fun h => (ha1 y h).1.below hB2) (fun h => (ha2 y h).1)⟩
  have HNEW : Shut (∀ y ∈ L1 ++ L2, RecNew (w.heap.size + 1 + 1) y) := ⟨fun y hy => (List.mem_append.1 hy).elim (fun h => (ha1 y h).2.mono hltW) (fun h => (ha2 y h).2.mono (Nat.le_trans hltW hB1s))⟩
  have HMP : Shut ((L1 ++ L2).map MRec.r = A.1 ++ Bv.1) := ⟨by rw [List.map_append, hm1, hm2]⟩
  have B0 : Below W2.heap.size W2 W2.drew := (Below.refl _ _).drew
  have B1 : ∀ o, Below W2.heap.size W2 (W2.drew.alloc o) := fun o => belowAlloc B0
  have egB := entersConcatB
  have egR := entersConcatR
  clear hD2 hcv2 c0 c1 f0 f1 hk1 hk3 hB2 ha1 ha2 hm1 hm2 hl1 hl2 hd1 hd2 hb1 hkk hj3 hL2 hsz hw1 hF1
  go_upto_region 3 with fail
  obtain ⟨k0, k1, k2, k3, k4, k5⟩ := HR _ B0
  obtain ⟨l0, l1, l2, l3, l4, l5⟩ := HR _ (B1 (.cells #[.slice p1 a1 cp1, .slice p2 b1 cp2] 39))
  obtain ⟨m0, m1, m2, m3, m4, m5⟩ := HR _ (belowAlloc (o := .cells #[.slice p1 a1 cp1, .slice p2 b1 cp2] 39) (Below.refl W2.heap.size W2))
  go_region_law (first
    | (refine step_call1 entersConcatB rfl (.tmp 35) 77 rfl _ rfl (hCb _ _ (by first | exact belowAlloc B0 | exact belowAlloc (belowAlloc B0)) (by first | exact liesNew (by simp) rfl | exact (liesNew (by simp) rfl).alloc _)) ?_; rintro _ wk ⟨⟨qb, cb, rfl, hlb, hcb, hfb⟩, hbk, B2⟩)
    | (refine step_call1 entersConcatR rfl (.tmp 40) 79 rfl _ rfl (hCr _ _ (by first | exact B2 | exact belowAlloc B2) (by first | exact liesNew (by simp) rfl | exact (liesNew (by simp) rfl).below hbk (Nat.le_refl _) | exact ((liesNew (by simp) rfl).alloc _).below hbk (Nat.le_refl _))) ?_; rintro _ wj ⟨⟨qr, cr, rfl, hlr, hcr, hfr⟩, hbj, B3⟩; obtain ⟨y0, y1, y2, y3, y4, y5⟩ := HR _ B3))
  all_goals
    have hkr := blkB hk4 B3
    have hF5 := hF2.trans (B3.mono hF2.size)
    have hlt : w.heap.size + 1 < W2.heap.size := (Array.getElem?_eq_some_iff.1 hk4).1
    have hlb' : Lies wj qb (bs (s ++ v.take k)) := by first | exact hlb.below hbj (Nat.le_refl _) | exact (hlb.alloc _).below hbj (Nat.le_refl _)
    have HIN : Shut (∀ y ∈ L1 ++ L2, RecIn wj y) := ⟨fun y hy => (HALL.out y hy).below B3⟩
    clear hCb hCr HR B0 B1 B2 k0 k1 k2 k3 k4 k5 l0 l1 l2 l3 l4 l5 m0 m1 m2 m3 m4 m5 y0 y1 y2 y3 y4 y5 egB egR hbk hbj hlb HALL
    go_wp2
    obtain ⟨W9, hW9, hb9, hk9, hB9⟩ := box2 wj (w.heap.size + 1) 24 _ _ (.slice qb (n + k) cb) (.slice none 0 0) hkr
    rw [hW9]
    have hF9 := hB9 _ _ (by omega) hF5
    have hBj : Below (w.heap.size + 1) wj W9 := hB9 _ _ (Nat.le_refl _) (Below.refl _ _)
    clear hW9
    obtain ⟨c0, c1, f0, f1⟩ := cellsD hb9
    refine bodyPost_ret (v := .tuple #[.agg #[.slice qb (n + k) cb, .slice none 0 0], .slice qr (a1 + b1) cr]) (by simp [results, Tryz.results15, go_sem, c0, c1]) rfl ?_
    have et : (s ++ v).take (s.length + Bv.2.1) = s ++ v.take k := by rw [HKK.out.2.1, List.take_length_add_append]
    rw [et]
    refine ⟨⟨L1 ++ L2, a1 + b1, qr, cr, qb, n + k, cb, rfl, by rw [List.length_append, HL1.out, HL2.out], ⟨by rw [List.length_append, HOK.out.2.1, HKK.out.2.2], rfl, hcb, Nat.le_refl _, liesFar hlb' hk9 (fun b o e => by have := hfb b o e; omega), Lies.nil _ _⟩, HMP.out, hcr, ?_, ?_⟩, hF9⟩
    · exact liesFar hlr hk9 (fun b o e => by have := hfr b o e; omega)
    · exact fun y hy => (HIN.out y hy).far (HNEW.out y hy) hk9

end

end Go.Proofs.YtekdigbdfeamkaaGreatDoor
