import Derived.Test.YtkiejflgphjfjacDoorPart20
import Derived.RegionTactic
/-
  peel.round: its contract.
-/
namespace Go.Proofs.YtkiejflgphjfjacDoor
open Go.RowKit
set_option linter.unusedVariables false
set_option linter.unusedSimpArgs false

theorem infoRowP : (Tryd.prog.info? 62).map (fun i => (i.zero, i.size, i.bytes)) = some (some (.agg #[.slice none 0 0, .slice none 0 0]), 2, 48) := by kernel_rfl

theorem boxyBl (bl : List Blk) : ∀ v ∈ (bl.map Blk.val).toArray.toList, boxy v = true := by
  intro v hv
  simp at hv
  obtain ⟨b, _, rfl⟩ := hv
  rfl

theorem blk_lt' {w : World} {b : Nat} {o : Obj} (h : w.heap[b]? = some o) : b < w.heap.size := by
  rcases Nat.lt_or_ge b w.heap.size with h1 | h1
  · exact h1
  · rw [Array.getElem?_eq_none h1] at h; cases h

theorem TyU.off {w : World} {a : Option Addr} {g : Nat} {c : Array Value} {t : TypeId} {f : Nat × Nat} (h : TyU w a) (hg : w.heap[g]? = some (.cells c t f)) (ht : t ≠ 5) : ∀ b o, a = some ⟨b, o, none⟩ → b ≠ g := by
  intro b o e e2
  subst e2
  obtain ⟨cur, f', hc⟩ := h b o e
  rw [hg] at hc
  cases hc
  exact ht rfl

theorem TyU.grown {w w' : World} {a : Option Addr} {row : Option Nat} (h : TyU w a) (hg : w.grownBy w' row) (hne : ∀ b o, a = some ⟨b, o, none⟩ → row ≠ some b) : TyU w' a := fun g o e => by
  obtain ⟨c, f, hc⟩ := h g o e
  exact ⟨c, f, (hg.block g (blk_lt' hc) (fun e2 => hne g o e e2.symm)).trans hc⟩

/-- one more is known -/
theorem KnAt.set {w : World} {kb nb k x q : Nat} {bl : List Blk} {K : Kn} {p : Option Addr} {d : List UInt8} (h : KnAt w kb nb k bl K) (hx : x < nb) (hd : d.length = k) (k1 : 1 ≤ k) (k2 : k ≤ 16) (hp : Lies w p (bs d)) (hty : TyU w p) : KnAt (w.setCell ⟨kb, x, none⟩ (.slice p k q)) kb nb k (bl.set x ⟨p, q, d⟩) (K.set x d) := by
  have gr := grown_setCell w kb x (.slice p k q)
  obtain ⟨h1, h2, h3, h4, h5, h6, h7⟩ := h
  have off : ∀ a, TyU w a → ∀ b o, a = some ⟨b, o, none⟩ → b ≠ kb := fun a ha => ha.off h1 (by decide)
  refine ⟨?_, by simp [h2], fun b hb => ?_, fun b hb hl => ?_, ?_, h6.set hd, fun b hb => ?_⟩
  · rw [heap_set h1]
    congr 2
    apply Array.ext'
    simp [List.map_set, Blk.val, hd]
  · rcases List.mem_or_eq_of_mem_set hb with hb | rfl
    · exact ⟨lies_grown gr (h3 b hb).1 (off _ (h7 b hb)), (h3 b hb).2⟩
    · exact ⟨lies_grown gr hp (off _ hty), by show d.length ≤ _; unfold maxLen; omega⟩
  · rcases List.mem_or_eq_of_mem_set hb with hb | rfl
    · exact h4 b hb hl
    · simp only at hl
      rw [hl] at hd
      simp at hd
      omega
  · rw [List.map_set, h5]
  · rcases List.mem_or_eq_of_mem_set hb with hb | rfl
    · exact (h7 b hb).grown gr fun b' o e e2 => off _ (h7 b hb) b' o e (Option.some.inj e2).symm
    · exact hty.grown gr fun b' o e e2 => off _ hty b' o e (Option.some.inj e2).symm

/-- a list of rows lies in no block of blocks -/
theorem own_off {w : World} {B kb n m : Nat} {v : Value} {xs : List Value} {c : Array Value} {f : Nat × Nat} (h : w.ownsRow B 62 n v m xs) (hk : w.heap[kb]? = some (.cells c 36 f)) : ∀ g, v.ownBlock = some g → g ≠ kb := by
  intro g hg e
  subst e
  rcases h.2 with ⟨e1, _⟩ | ⟨g', cap, cur, e1, _, hg', _⟩
  · rw [e1] at hg; cases hg
  · rw [e1] at hg
    cases hg
    rw [hk] at hg'
    cases hg'

theorem own_setO {w : World} {B kb o n m : Nat} {v u : Value} {xs : List Value} {t : TypeId} (h : w.ownsRow B t n v m xs) (hne : ∀ g, v.ownBlock = some g → g ≠ kb) : (w.setCell ⟨kb, o, none⟩ u).ownsRow B t n v m xs := by
  refine ⟨h.1, ?_⟩
  rcases h.2 with h0 | ⟨g, cap, cur, e1, hb, hg, hr⟩
  · exact .inl h0
  · exact .inr ⟨g, cap, cur, e1, hb, block_set hg (hne g (by rw [e1]; rfl)), hr⟩

theorem own_rows {w : World} {B n : Nat} {v : Value} {l : List MRow} (h : w.ownsRow B 62 2 v n (rowCells l)) : ∃ a cap, v = .slice a n cap ∧ Lies w a (rowCells l) ∧ n = l.length ∧ n ≤ cap ∧ ∀ b o, a = some ⟨b, o, none⟩ → v.ownBlock = some b := by
  have hl := h.1
  rw [rowCells_length] at hl
  rcases h.2 with ⟨rfl, h0⟩ | ⟨g, cap, cur, rfl, hb, hg, hnc, hcm, hcs, htake⟩
  · have : l = [] := by
      cases l with
      | nil => rfl
      | cons a l => simp at hl; omega
    subst this
    exact ⟨none, 0, by rw [h0], Lies.nil _ _, h0, by omega, fun b o e => by cases e⟩
  · refine ⟨_, cap, rfl, ?_, by omega, hnc, fun b o e => by cases e; rfl⟩
    refine Lies.mk fun k hk => ?_
    rw [cell_blk hg, Nat.zero_add]
    have := congrArg (fun z : List Value => z[k]?) htake
    simp only [List.getElem?_eq_getElem hk] at this
    rw [← this]
    rw [rowCells_length] at hk
    simp [List.getElem?_take]
    omega

/-- the state of the round -/
def RndSt (w wr : World) (kb nb k : Nat) (rows : List MRow) (v : Value) (s : PSt) : Prop :=
  ∃ (left : List MRow) (bl : List Blk), wr.ownsRow w.heap.size 62 2 v left.length (rowCells left) ∧ left.map MRow.says = s.1 ∧ (∀ r ∈ left, r ∈ rows) ∧ KnAt wr kb nb k bl s.2.1 ∧ w.grownBy wr (some kb)

theorem own_monoR {w : World} {B B' n m : Nat} {t : TypeId} {v : Value} {xs : List Value} (h : w.ownsRow B t n v m xs) (hB : B' ≤ B) : w.ownsRow B' t n v m xs := by
  refine ⟨h.1, ?_⟩
  rcases h.2 with h0 | ⟨g, cap, cur, e1, hb, hr⟩
  · exact .inl h0
  · exact .inr ⟨g, cap, cur, e1, Nat.le_trans hB hb, hr⟩

/-- what is known, behind a list of rows that grew -/
theorem KnAt.grown {w w' : World} {kb nb k B n m : Nat} {bl : List Blk} {K : Kn} {v : Value} {xs : List Value} (h : KnAt w kb nb k bl K) (ho : w.ownsRow B 62 n v m xs) (hg : w.grownBy w' v.ownBlock) : KnAt w' kb nb k bl K := by
  obtain ⟨h1, h2, h3, h4, h5, h6, h7⟩ := h
  have hoff := own_off ho h1
  have off : ∀ a, TyU w a → ∀ b o, a = some ⟨b, o, none⟩ → v.ownBlock ≠ some b := fun a ha b o e e2 => by
    rcases ho.2 with ⟨e1, _⟩ | ⟨g', cap, cur, e1, _, hg', _⟩
    · rw [e1] at e2; cases e2
    · rw [e1] at e2
      cases e2
      exact ha.off hg' (by decide) _ o e rfl
  refine ⟨(hg.block kb (blk_lt' h1) fun e => hoff kb e.symm rfl).trans h1, h2, fun b hb => ⟨lies_grownBy hg (h3 b hb).1 (off _ (h7 b hb)), (h3 b hb).2⟩, h4, h5, h6, fun b hb => (h7 b hb).grown hg (off _ (h7 b hb))⟩

theorem grown_over {w a b : World} {kb : Nat} {row : Option Nat} (h : w.grownBy a (some kb)) (hg : a.grownBy b row) (hr : ∀ g, row = some g → w.heap.size ≤ g) : w.grownBy b (some kb) :=
  ⟨hg.os.trans h.os, hg.tape.trans h.tape, hg.output.trans h.output, Nat.le_trans h.size hg.size, fun i hi hne => (hg.block i (Nat.lt_of_lt_of_le hi h.size) fun e => by have := hr i e.symm; omega).trans (h.block i hi hne)⟩

theorem fold_len {n k : Nat} : ∀ (A : List LRow) (s : PSt), (A.foldl (stepR n k) s).1.length ≤ s.1.length + A.length := by
  intro A
  induction A with
  | nil => intro s; simp
  | cons r A ih =>
    intro s
    have h1 : (stepR n k s r).1.length ≤ s.1.length + 1 := by
      rcases miss_cases n r.1 s.2.1 with h0 | ⟨x, hx⟩ | h2
      · rw [stepR_none h0]; omega
      · rw [stepR_one hx]; simp
      · rw [stepR_more h2]; simp
    have := ih (stepR n k s r)
    simp only [List.foldl_cons, List.length_cons]
    omega

theorem rowCells_snoc (l : List MRow) (r : MRow) : rowCells (l ++ [r]) = rowCells l ++ [r.hv, r.dv] := by simp [rowCells]

/-- rows behind what is written into the block of known ones -/
theorem KnAt.rows {w wr : World} {kb nb k : Nat} {bl : List Blk} {K : Kn} {r : MRow} (h : KnAt w kb nb k bl K) (n1 : 1 ≤ nb) (k1 : 1 ≤ k) (hr : RowIn w r) (hf : Fits nb k r.says) (hg : w.grownBy wr (some kb)) : RowIn wr r := by
  have h1 := hf.1
  have h2 := hf.2
  simp only [MRow.says] at h1 h2
  exact hr.far (by omega) (by omega) h.1 (boxyBl bl) hg

theorem fold_take {n k : Nat} {A : List LRow} {s : PSt} {q : Nat} (hq : q < A.length) : (A.take (q + 1)).foldl (stepR n k) s = stepR n k ((A.take q).foldl (stepR n k) s) A[q] := by
  rw [List.take_add_one, List.getElem?_eq_getElem hq, Option.toList_some, List.foldl_append]
  rfl

set_option maxRecDepth 8000 in
set_option maxHeartbeats 4000000 in
theorem round_any (nb k kb m : Nat) (ra : Option Addr) (rc : Nat) (rows : List MRow) (A : List LRow) (bl : List Blk) (K : Kn) (w : World) (hr : w.ownsRow 0 62 2 (.slice ra m rc) m (rowCells rows)) (hin : ∀ r ∈ rows, RowIn w r) (hA : rows.map MRow.says = A) (hf : ∀ r ∈ A, Fits nb k r) (hm : rows.length = m) (hm60 : m ≤ 60) (k1 : 1 ≤ k) (k2 : k ≤ 16) (n1 : 1 ≤ nb) (n2 : nb ≤ 24) (hK : KnAt w kb nb k bl K) :
    Calls Tryd.prog 56 #[.slice ra m rc, .slice (some ⟨kb, 0, none⟩) nb nb] w fun e w' => ∃ (la : Option Addr) (lc z : Nat) (left : List MRow) (bl' : List Blk), e = .returned (.tuple #[.slice la z lc, .bool (roundP nb k A K).2.2]) ∧ Shut (w'.ownsRow 0 62 2 (.slice la z lc) z (rowCells left) ∧ left.length = z ∧ left.map MRow.says = (roundP nb k A K).1 ∧ (∀ r ∈ left, r ∈ rows) ∧ KnAt w' kb nb k bl' (roundP nb k A K).2.1 ∧ w.grownBy w' (some kb)) := by
  obtain ⟨i0, hii, hz0, hz1, hz2⟩ := info_parts infoRowP
  have hAl : A.length = m := by rw [← hA]; simpa using hm
  obtain ⟨ra', rc', hv, hlr, hjunk1, hjunk2, hrb⟩ := own_rows hr
  cases hv
  clear hjunk1 hjunk2
  have hoff := own_off hr hK.1
  have HX := Shut.mk (And.intro hlr (And.intro hin (And.intro hA (And.intro hf (And.intro hm (And.intro hAl (And.intro hK fun b o e => hoff b (hrb b o e))))))))
  have H0 : Shut (RndSt w w kb nb k rows (.slice none 0 0) ((A.take 0).foldl (stepR nb k) ([], K, false))) := ⟨[], bl, World.ownsRow_nil _ _ _ _, by simp, (fun r hr => by cases hr), by simpa using hK, grown_refl _ _⟩
  have hE0 : ((A.take 0).foldl (stepR nb k) ([], K, false)).2.2 = false := by simp
  clear hr hin hA hf hm hAl hlr hrb hoff hK
  go_enter Tryd.func56, Tryd.ntmps56
  go_wp2
  go_loopw [6, 7, 13] (fun v b i wr => ∃ (q : Nat) (s : PSt), q ≤ m ∧ i = .int .i64 q ∧ b = .bool s.2.2 ∧ Shut ((A.take q).foldl (stepR nb k) ([], K, false) = s ∧ RndSt w wr kb nb k rows v s)) (fun _ _ i _ => m - (intOf i).toNat)
  case atStart => exact ⟨0, _, Nat.zero_le _, rfl, by rw [hE0], ⟨rfl, H0.out⟩⟩
  case round =>
    clear H0 hE0
    obtain ⟨q, s, hq, rfl, rfl, HI⟩ := hrel
    by_cases hlt : q < m
    · have hqr : q < rows.length := by rw [HX.out.2.2.2.2.1]; exact hlt
      have hqA : q < A.length := by rw [HX.out.2.2.2.2.2.1]; exact hlt
      have hsn := fold_take (n := nb) (k := k) (s := ([], K, false)) hqA
      rw [HI.out.1] at hsn
      have hAq : A[q] = rows[q].says := by
        have e : (rows.map MRow.says)[q]? = A[q]? := by rw [HX.out.2.2.1]
        rw [List.getElem?_map, List.getElem?_eq_getElem hqr, List.getElem?_eq_getElem hqA] at e
        simpa using e.symm
      obtain ⟨left, bl1, hown, hls, hlm, hK1, hgr⟩ := HI.out.2
      have hFq : Fits nb k rows[q].says := by rw [← hAq]; exact HX.out.2.2.2.1 _ (List.getElem_mem hqA)
      have hRq := HX.out.2.2.2.2.2.2.1.rows n1 k1 (HX.out.2.1 _ (List.getElem_mem hqr)) hFq hgr
      have hlw := lies_grown hgr HX.out.1 HX.out.2.2.2.2.2.2.2
      obtain ⟨lb, lo, hla⟩ := hlw.some (k := 2 * q) (by rw [rowCells_length]; omega)
      rw [hla] at hlw
      obtain ⟨a0, a1⟩ := row_at hlw hqr
      have hmem := List.getElem_mem hqr
      rw [hAq] at hsn
      generalize rows[q]'hqr = R at *
      obtain ⟨ha, hc, rh, da, dc, rd⟩ := R
      have f1 : rh.length = nb := hFq.1
      have f2 : rd.length = k := hFq.2
      simp only [MRow.hv, MRow.dv, f1, f2] at a0 a1
      subst hla
      have bd : Below wr.heap.size wr (wr.alloc (.cells #[.slice ha nb hc, .slice da k dc] 62)) := (Below.refl _ _).alloc (Nat.le_refl _) _
      have hYB : (wr.alloc (.cells #[.slice ha nb hc, .slice da k dc] 62)).heap[wr.heap.size]? = some (.cells #[.slice ha nb hc, .slice da k dc] 62 (0, 0)) := by rw [heap_alloc_eq, if_pos rfl]
      go_upto_region 6 with fail
      obtain ⟨W5, hW5⟩ : ∃ W5, wr.alloc (.cells #[.slice ha nb hc, .slice da k dc] 62) = W5 := ⟨_, rfl⟩
      obtain ⟨sb, hsb⟩ : ∃ sb, wr.heap.size = sb := ⟨_, rfl⟩
      rw [hW5] at bd hYB ⊢
      rw [hsb] at hYB ⊢
      obtain ⟨y0, y1⟩ := cells2 hYB
      have hU := unknown_any nb k kb ha hc rh (.slice da k dc) bl1 s.2.1 W5 (hRq.1.below bd (Nat.le_refl _)) f1 n1 n2 (hK1.below bd)
      have HS := Shut.mk (And.intro (own_below2 hown bd) (And.intro hls (And.intro hlm (And.intro (hK1.below bd) (And.intro (grown_trans hgr (grown_of_below bd)) (And.intro hYB (And.intro (hRq.below bd) (And.intro hmem (And.intro hsn f1)))))))))
      clear hown hls hlm hK1 hgr hRq hmem hsn hYB bd hW5 hsb hlw a0 a1 hFq hAq hqr hqA HI
      go_wp2_with fail
      refine hU.mono ?_
      rintro e w6 ⟨p, pq, rfl, hp6, hb6⟩
      replace HS := Shut.mk (And.intro (own_below2 HS.out.1 hb6) (And.intro HS.out.2.1 (And.intro HS.out.2.2.1 (And.intro (HS.out.2.2.2.1.below hb6) (And.intro (grown_trans HS.out.2.2.2.2.1 (grown_of_below hb6)) (And.intro (blk_below HS.out.2.2.2.2.2.1 hb6) (And.intro (HS.out.2.2.2.2.2.2.1.below hb6) HS.out.2.2.2.2.2.2.2)))))))
      clear hU hb6 y0 y1
      have hmn := miss_len nb rh s.2.1
      rcases miss_cases nb rh s.2.1 with h0 | ⟨x, hx⟩ | h2
      · have R : Shut ((A.take (q + 1)).foldl (stepR nb k) ([], K, false) = s ∧ RndSt w w6 kb nb k rows u6 s) := ⟨by rw [HS.out.2.2.2.2.2.2.2.2.1]; exact stepR_none h0, left, bl1, HS.out.1, HS.out.2.1, HS.out.2.2.1, HS.out.2.2.2.1, HS.out.2.2.2.2.1⟩
        rw [h0]
        clear HS hp6
        go_wp2
        go_roundw
        case rel => exact ⟨q + 1, s, by omega, by go_num, rfl, R⟩
        case measure => simp [intOf]; omega
      · have hxm : x ∈ missL nb rh s.2.1 := by rw [hx]; simp
        obtain ⟨hxn, hxr, hxk⟩ := mem_miss.1 hxm
        rw [hx] at hp6 hmn ⊢
        simp only [nats, is, List.map_cons, List.map_nil, List.length_cons, List.length_nil, Nat.zero_add] at hp6 hmn ⊢
        obtain ⟨pb, po, hpe⟩ := hp6.some (k := 0) (by simp)
        subst hpe
        have c0 := hp6.at (k := 0) (u := .int .i64 (x : Int)) rfl
        simp only [Nat.add_zero] at c0
        have hpk : pb ≠ kb := by
          intro e
          subst e
          rw [cell_blk HS.out.2.2.2.1.1] at c0
          simp at c0
          obtain ⟨b, _, hb⟩ := c0
          cases hb
        obtain ⟨y0, y1⟩ := cells2 HS.out.2.2.2.2.2.1
        have hsk : sb ≠ kb := by
          intro e
          subst e
          have h1 := HS.out.2.2.2.1.1
          rw [HS.out.2.2.2.2.2.1] at h1
          simp at h1
        have hx1 : (0 : Int) ≤ (x : Int) := by omega
        have hx2 : (x : Int) < (nb : Int) := by omega
        have hRs : ∀ W, Below w6.heap.size w6 W → Calls Tryd.prog 80 #[.agg #[.slice ha nb hc, .slice da k dc], .slice (some ⟨kb, 0, none⟩) nb nb] W fun e w' => ∃ (p : Option Addr) (q : Nat), e = .returned (.slice p k q) ∧ Shut (Lies w' p (bs (restL nb k (rh, rd) s.2.1)) ∧ Below w6.heap.size w6 w' ∧ TyU w' p) ∧ Below W.heap.size W w' := fun W hW => by
          refine (rest_any nb k kb ha hc rh da dc rd bl1 s.2.1 W (HS.out.2.2.2.2.2.2.1.1.below hW (Nat.le_refl _)) f1 (HS.out.2.2.2.2.2.2.1.2.1.below hW (Nat.le_refl _)) f2 k1 k2 n1 n2 (HS.out.2.2.2.1.below hW)).mono ?_
          rintro e w' ⟨p, q, h1, h2, h4, h3⟩
          exact ⟨p, q, h1, ⟨h2, hW.trans (h3.mono hW.size), h4⟩, h3⟩
        have hkc : ∀ W, Below w6.heap.size w6 W → ∃ u, W.cell? ⟨kb, x, none⟩ = some u ∧ W.frozen? ⟨kb, x, none⟩ = false := fun W hW => by
          have h := HS.out.2.2.2.1.below hW
          exact ⟨_, h.cell (j := x) (by rw [h.2.1]; exact hxn), frozen_blk h.1 x⟩
        have D1 : Shut (Below w6.heap.size w6 w6.drew) := ⟨(Below.refl _ _).drew⟩
        have D0 : Shut (Below w6.heap.size w6 w6) := ⟨Below.refl _ _⟩
        have c0d : w6.drew.cell? ⟨pb, po, none⟩ = some (.int .i64 (x : Int)) := c0
        have y0d : w6.drew.cell? ⟨sb, 0, none⟩ = some (.slice ha nb hc) := y0
        have y1d : w6.drew.cell? ⟨sb, 1, none⟩ = some (.slice da k dc) := y1
        go_upto_region 11 with fail
        go_region_held3 (fun w' => w'.cell? ⟨pb, po, none⟩ = some (.int .i64 (x : Int)) ∧ w'.cell? ⟨sb, 0, none⟩ = some (.slice ha nb hc) ∧ w'.cell? ⟨sb, 1, none⟩ = some (.slice da k dc)) (first | exact ⟨by assumption, by assumption, by assumption⟩ | (refine ⟨?_, ?_, ?_⟩ <;> (rw [World.cell?_setCell_other _ _ _ _ (by intro e; injection e; omega)]; assumption))) (first | (go_at_call 80; (first | refine (hRs w6 D0.out).mono ?_ | refine (hRs w6.drew D1.out).mono ?_); rintro e w7 ⟨p7, q7, rfl, HR7, hb7⟩; have h67 := HR7.out.2.1; have v0 := cellC c0 h67; have v1 := cellC y0 h67; have v2 := cellC y1 h67; obtain ⟨kv, kv1, kv2⟩ := hkc w7 h67))
        all_goals
          have hK7 := HS.out.2.2.2.1.below h67
          have ho7 := own_below2 HS.out.1 h67
          have hst : stepR nb k s (rh, rd) = (s.1, s.2.1.set x (restL nb k (rh, rd) s.2.1), true) := stepR_one hx
          have R : Shut ((A.take (q + 1)).foldl (stepR nb k) ([], K, false) = (s.1, s.2.1.set x (restL nb k (rh, rd) s.2.1), true) ∧ RndSt w (w7.setCell ⟨kb, x, none⟩ (.slice p7 k q7)) kb nb k rows u6 (s.1, s.2.1.set x (restL nb k (rh, rd) s.2.1), true)) := ⟨by rw [HS.out.2.2.2.2.2.2.2.2.1]; exact hst, left, _, own_setO ho7 (own_off ho7 hK7.1), HS.out.2.1, HS.out.2.2.1, hK7.set hxn (restL_length nb k (rh, rd) s.2.1) k1 k2 HR7.out.1 HR7.out.2.2, grown_trans (grown_trans HS.out.2.2.2.2.1 (grown_of_below h67)) (grown_setCell w7 kb x (.slice p7 k q7))⟩
          clear HS HR7 hK7 ho7 hst hkc hRs v0 v1 v2 kv1 kv2 h67 hb7 c0 c0d y0 y1 y0d y1d
          go_wp2
          go_roundw
          case rel => exact ⟨q + 1, _, by omega, by go_num, rfl, R⟩
          case measure => simp [intOf]; omega
      · obtain ⟨mz, hmz⟩ : ∃ mz, (missL nb rh s.2.1).length = mz := ⟨_, rfl⟩
        rw [hmz] at hmn h2 ⊢
        have e0 : ((mz : Int) == 0) = false := by simp; omega
        have e1 : ((mz : Int) == 1) = false := by simp; omega
        obtain ⟨y0, y1⟩ := cells2 HS.out.2.2.2.2.2.1
        have hown := HS.out.1
        have hsz := HS.out.2.2.2.2.1.size
        have hll : left.length ≤ 60 := by
          have h1 : left.length = s.1.length := by rw [← HS.out.2.1]; simp
          have h3 := fold_len (n := nb) (k := k) (A.take (q + 1)) ([], K, false)
          rw [HS.out.2.2.2.2.2.2.2.2.1, stepR_more (by show 2 ≤ (missL nb rh s.2.1).length; rw [hmz]; exact h2)] at h3
          simp only [List.length_append, List.length_take, List.length_nil, List.length_cons] at h3
          omega
        clear hp6
        go_wp2_with (first | (at_builtin; refine wpList_append_own _ rfl _ _ 51 rfl w.heap.size 62 i0 (.agg #[.slice none 0 0, .slice none 0 0]) 2 48 Tryd.underlying51 hii hz0 hz1 hz2 rfl (by decide) _ _ _ rfl (hown.alloc _) ⟨w6.heap.size, 0, none⟩ 1 1 [.slice ha nb hc, .slice da k dc] rfl rfl ?c1 ?c2 ?c3 ?c4 ?c5 ?_) | go_in)
        case c1 =>
          intro j u hj
          match j, hj with
          | 0, hj => simp at hj; subst hj; simp [Addr.add]
          | 1, hj => simp at hj; subst hj; simp [Addr.add]
        case c2 => intro u hu; simp at hu; rcases hu with rfl | rfl <;> rfl
        case c3 => unfold maxLen; omega
        case c4 => omega
        case c5 => simp; omega
        intro v' w8 hown' hgrow _
        have bd : Below w6.heap.size w6 (w6.alloc (.cells #[.slice ha nb hc, .slice da k dc] 62)) := (Below.refl _ _).alloc (Nat.le_refl _) _
        have hst : stepR nb k s (rh, rd) = (s.1 ++ [(rh, rd)], s.2.1, s.2.2) := stepR_more (by rw [hmz]; exact h2)
        have R : Shut ((A.take (q + 1)).foldl (stepR nb k) ([], K, false) = (s.1 ++ [(rh, rd)], s.2.1, s.2.2) ∧ RndSt w w8 kb nb k rows v' (s.1 ++ [(rh, rd)], s.2.1, s.2.2)) := ⟨by rw [HS.out.2.2.2.2.2.2.2.2.1]; exact hst, left ++ [⟨ha, hc, rh, da, dc, rd⟩], bl1, by
          rw [rowCells_snoc, List.length_append]
          simp only [MRow.hv, MRow.dv, f1, f2, List.length_cons, List.length_nil]
          exact hown', by rw [List.map_append, HS.out.2.1]; rfl, fun r hr => by
            rcases List.mem_append.1 hr with h | h
            · exact HS.out.2.2.1 r h
            · simp at h; subst h; exact HS.out.2.2.2.2.2.2.2.1, (HS.out.2.2.2.1.below bd).grown (own_below2 HS.out.1 bd) hgrow, grown_over (grown_trans HS.out.2.2.2.2.1 (grown_of_below bd)) hgrow fun g hg => (own_lt HS.out.1 g hg).1⟩
        clear hown' hgrow hown hsz HS hst bd y0 y1
        go_wp2
        go_roundw
        case rel => exact ⟨q + 1, (s.1 ++ [(rh, rd)], s.2.1, s.2.2), by omega, by go_num, rfl, R⟩
        case measure => simp [intOf]; omega
    · obtain rfl : q = m := by omega
      obtain ⟨left, bl1, hown, hls, hlm, hK1, hgr⟩ := HI.out.2
      have hs : roundP nb k A K = s := by
        have := HI.out.1
        rw [List.take_of_length_le (by rw [HX.out.2.2.2.2.2.1]; exact Nat.le_refl _)] at this
        exact this
      obtain ⟨la, lc, hv, _, _, _, _⟩ := own_rows hown
      subst hv
      obtain ⟨z, hz⟩ : ∃ z, left.length = z := ⟨_, rfl⟩
      rw [hz] at hown ⊢
      have R : Shut (wr.ownsRow 0 62 2 (.slice la z lc) z (rowCells left) ∧ left.length = z ∧ left.map MRow.says = (roundP nb k A K).1 ∧ (∀ r ∈ left, r ∈ rows) ∧ KnAt wr kb nb k bl1 (roundP nb k A K).2.1 ∧ w.grownBy wr (some kb)) := ⟨own_monoR hown (Nat.zero_le _), hz, by rw [hs]; exact hls, hlm, by rw [hs]; exact hK1, hgr⟩
      have hs2 : (roundP nb k A K).2.2 = s.2.2 := by rw [hs]
      have HS2 := Shut.mk hs2
      clear hown hls hlm hK1 hgr HI hs hs2 hz
      go_wp2
      go_ret2
      first | exact ⟨la, lc, z, by rw [HS2.out]; rfl, left, bl1, R⟩ | exact ⟨la, lc, z, left, bl1, by rw [HS2.out]; rfl, R⟩

end Go.Proofs.YtkiejflgphjfjacDoor

/-
  peel.rows: its contract.
-/
namespace Go.Proofs.YtkiejflgphjfjacDoor
open Go.RowKit
set_option linter.unusedVariables false
set_option linter.unusedSimpArgs false

/-- the first error of symbols that are checked one by one -/
def chkAll (B K : Int) : List LSym → Int
  | [] => 0
  | y :: l => if chkS B K y.1 y.2.length ≠ 0 then chkS B K y.1 y.2.length else chkAll B K l

theorem chkAll_drop {B K : Int} {ls : List LSym} {q : Nat} {y : LSym} (hd : ls.drop q = y :: ls.drop (q + 1)) (h : chkS B K y.1 y.2.length = 0) : chkAll B K (ls.drop (q + 1)) = chkAll B K (ls.drop q) := by
  rw [hd, chkAll, if_neg (by simp [h])]

def TyB (w : World) (a : Option Addr) : Prop := ∀ g o, a = some ⟨g, o, none⟩ → ∃ cur f, w.heap[g]? = some (.cells cur 4 f)

theorem TyB.below {w w' : World} {a : Option Addr} (h : TyB w a) (hb : Below w.heap.size w w') : TyB w' a := fun g o e => by
  obtain ⟨c, f, hc⟩ := h g o e
  exact ⟨c, f, blk_below hc hb⟩

theorem TyB.off {w : World} {a : Option Addr} {B n m : Nat} {v : Value} {xs : List Value} (h : TyB w a) (ho : w.ownsRow B 62 n v m xs) : ∀ b o, a = some ⟨b, o, none⟩ → v.ownBlock ≠ some b := by
  intro b o e e2
  obtain ⟨cur, f', hc⟩ := h b o e
  rcases ho.2 with ⟨e1, _⟩ | ⟨g', cap, cur, e1, _, hg', _⟩
  · rw [e1] at e2; cases e2
  · rw [e1] at e2
    cases e2
    rw [hg'] at hc
    cases hc

theorem TyB.grown {w w' : World} {a : Option Addr} {row : Option Nat} (h : TyB w a) (hg : w.grownBy w' row) (hne : ∀ b o, a = some ⟨b, o, none⟩ → row ≠ some b) : TyB w' a := fun g o e => by
  obtain ⟨c, f, hc⟩ := h g o e
  exact ⟨c, f, (hg.block g (blk_lt' hc) (fun e2 => hne g o e e2.symm)).trans hc⟩

/-- the state of the loop: so many rows -/
def RwsSt (w wr : World) (B K : Int) (nb k : Nat) (ls : List LSym) (v : Value) (q : Nat) : Prop :=
  ∃ rows : List MRow, wr.ownsRow (w.heap.size + 1) 62 2 v q (rowCells rows) ∧ rows.map MRow.says = (ls.take q).map (rowOf nb) ∧ (∀ r ∈ rows, TyB wr r.ha ∧ Lies wr r.ha (r.h.map Value.bool) ∧ Lies w r.da (bs r.d) ∧ Fits nb k r.says) ∧
    wr.heap[w.heap.size]? = some (.cells #[.int .i64 B, .int .i64 K] 23 (0, 0)) ∧ Below w.heap.size w wr ∧ chkAll B K (ls.drop q) = chkAll B K ls

set_option maxRecDepth 8000 in
set_option maxHeartbeats 4000000 in
theorem rowsP_any (B K : Int) (n k nb m : Nat) (la : Option Addr) (lc : Nat) (l : List MSym) (ls : List LSym) (w : World) (g : Good B K n k nb) (hB : I64 B) (hK : I64 K) (hl : Lies w la (symCells l)) (hall : ∀ y ∈ l, SymIn w y) (hm : l.length = m) (h60 : m ≤ 60) (hls : l.map MSym.says = ls) (hL : Laid w) :
    Calls Tryd.prog 55 #[.agg #[.int .i64 B, .int .i64 K], .slice la m lc] w fun e w' =>
      ((chkAll B K ls ≠ 0 ∧ e = .returned (.tuple #[.slice none 0 0, .int .i64 (chkAll B K ls)])) ∨
        ∃ (ra : Option Addr) (rc : Nat) (rows : List MRow), e = .returned (.tuple #[.slice ra m rc, .int .i64 0]) ∧ Shut (chkAll B K ls = 0 ∧ w'.ownsRow 0 62 2 (.slice ra m rc) m (rowCells rows) ∧ rows.length = m ∧ (∀ r ∈ rows, RowIn w' r) ∧ rows.map MRow.says = ls.map (rowOf nb) ∧ ∀ r ∈ rows, Fits nb k r.says)) ∧ Below w.heap.size w w' := by
  have b1 := g.b1
  have b2 := g.b2
  have k1 := g.k1
  have k2 := g.k2
  obtain ⟨i0, hii, hz0, hz1, hz2⟩ := info_parts infoRowP
  have hBl : Below w.heap.size w (w.alloc (.cells #[.int .i64 B, .int .i64 K] 23)) := (Below.refl _ _).alloc (Nat.le_refl _) _
  have H0 : Shut (RwsSt w (w.alloc (.cells #[.int .i64 B, .int .i64 K] 23)) B K nb k ls (.slice none 0 0) 0) := ⟨[], World.ownsRow_nil _ _ _ _, rfl, (fun r hr => by cases hr), by rw [heap_alloc_eq, if_pos rfl], hBl, rfl⟩
  have HLS : Shut (ls.length = m) := ⟨by rw [← hls]; simpa using hm⟩
  have HG := Shut.mk g
  have HX := Shut.mk (And.intro hl (And.intro hall (And.intro hm (And.intro hls hL))))
  have hBk : ∀ W, Calls Tryd.prog 20 #[.agg #[.int .i64 B, .int .i64 K]] W fun e w' => e = .returned (.int .i64 nb) ∧ Below W.heap.size W w' := fun W => by
    have h := cutBlocks_any B K W hB hK
    rw [g.eN] at h
    exact h
  clear hl hall hm hls hL g hBl
  go_enter Tryd.func55, Tryd.ntmps55
  go_wp2
  go_loopw [6, 14] (fun v i wr => ∃ q : Nat, q ≤ m ∧ i = .int .i64 q ∧ Shut (RwsSt w wr B K nb k ls v q)) (fun _ i _ => m - (intOf i).toNat)
  case atStart => exact ⟨0, Nat.zero_le _, rfl, H0⟩
  case round =>
    clear H0
    obtain ⟨q, hq, rfl, HI⟩ := hrel
    by_cases hlt : q < m
    · obtain ⟨rows, hown, hmp, hrs, hpb, hbw, hca⟩ := HI.out
      have hql : q < l.length := by rw [HX.out.2.2.1]; exact hlt
      have hlw := HX.out.1.below hbw (Nat.le_refl _)
      obtain ⟨ab, ao, haa⟩ := hlw.some (k := 2 * q) (by rw [symCells_length]; omega)
      rw [haa] at hlw
      obtain ⟨a0, a1⟩ := sym_at hlw hql
      have hY0 := HX.out.2.1 _ (List.getElem_mem hql)
      have HDR : Shut (ls.drop q = l[q].says :: ls.drop (q + 1) ∧ ls.take (q + 1) = ls.take q ++ [l[q].says]) := ⟨by
        have e : ls[q]? = some l[q].says := by rw [← HX.out.2.2.2.1]; simp [hql]
        have hlt2 : q < ls.length := (List.getElem?_eq_some_iff.1 e).1
        refine ⟨?_, by rw [List.take_add_one, e]; rfl⟩
        rw [List.drop_eq_getElem_cons hlt2]
        rw [List.getElem?_eq_getElem hlt2] at e
        rw [Option.some.inj e]⟩
      generalize l[q]'hql = Y at *
      have hYB : (wr.alloc (.cells #[.int .i64 Y.id, Y.dv] 39)).heap[wr.heap.size]? = some (.cells #[.int .i64 Y.id, Y.dv] 39 (0, 0)) := by rw [heap_alloc_eq, if_pos rfl]
      have bd : Below wr.heap.size wr (wr.alloc (.cells #[.int .i64 Y.id, Y.dv] 39)) := (Below.refl _ _).alloc (Nat.le_refl _) _
      have hp2 := blk_below hpb bd
      have hb2 := hbw.trans (bd.mono hbw.size)
      obtain ⟨v0, v1⟩ := cells2 hYB
      obtain ⟨p0, p1⟩ := cells2 hp2
      have hrs2 : ∀ r ∈ rows, TyB (wr.alloc (.cells #[.int .i64 Y.id, Y.dv] 39)) r.ha ∧ Lies (wr.alloc (.cells #[.int .i64 Y.id, Y.dv] 39)) r.ha (r.h.map Value.bool) ∧ Lies w r.da (bs r.d) ∧ Fits nb k r.says := fun r hr => ⟨(hrs r hr).1.below bd, (hrs r hr).2.1.below bd (Nat.le_refl _), (hrs r hr).2.2⟩
      have HST := Shut.mk (And.intro (own_below2 hown bd) (And.intro hmp (And.intro hrs2 (And.intro hp2 (And.intro hb2 (And.intro hca (And.intro hYB hY0)))))))
      obtain ⟨W5, hW5⟩ : ∃ W5, wr.alloc (.cells #[.int .i64 Y.id, Y.dv] 39) = W5 := ⟨_, rfl⟩
      obtain ⟨sb, hsb⟩ : ∃ sb, wr.heap.size = sb := ⟨_, rfl⟩
      rw [hW5, hsb] at HST
      have HW5 := Shut.mk (And.intro hW5 hsb)
      clear hown hmp hrs hpb hbw hca hY0 hrs2 hp2 hb2 bd hlw hW5 hsb hYB HI
      obtain ⟨yid, ya, yc, yd⟩ := Y
      simp only [MSym.dv] at *
      subst haa
      have hyl : yd.length ≤ maxLen := HST.out.2.2.2.2.2.2.2.2
      have hCS := codeCheck_any B K yid ya yd.length yc W5 hB hK hyl
      by_cases hck : chkS B K yid yd.length = 0
      · obtain ⟨i, hi, hi9, hdk⟩ := chkS_zero HG.out hck
        subst hi
        have HDK := Shut.mk hdk
        have HCK := Shut.mk hck
        rw [hck] at hCS
        clear hck hdk hyl
        go_wp2_with fail
        rw [HW5.out.1]
        refine hCS.mono ?_
        rintro e w6 ⟨rfl, hb6⟩
        replace HST := Shut.mk (And.intro (own_below2 HST.out.1 hb6) (And.intro HST.out.2.1 (And.intro (fun r (hr : r ∈ rows) => And.intro ((HST.out.2.2.1 r hr).1.below hb6) (And.intro ((HST.out.2.2.1 r hr).2.1.below hb6 (Nat.le_refl _)) (HST.out.2.2.1 r hr).2.2)) (And.intro (blk_below HST.out.2.2.2.1 hb6) (And.intro (HST.out.2.2.2.2.1.trans (hb6.mono HST.out.2.2.2.2.1.size)) (And.intro HST.out.2.2.2.2.2.1 (And.intro (blk_below HST.out.2.2.2.2.2.2.1 hb6) HST.out.2.2.2.2.2.2.2)))))))
        clear hCS hb6 v0 v1 p0 p1 a0 a1
        go_upto_region 8 with fail
        rw [HW5.out.2, HDK.out]
        obtain ⟨y0, y1⟩ := cells2 HST.out.2.2.2.2.2.2.1
        obtain ⟨p0, p1⟩ := cells2 HST.out.2.2.2.1
        simp only [HDK.out] at y1
        have hO : ∀ W, Below w6.heap.size w6 W → Calls Tryd.prog 24 #[.int .i64 i, .int .i64 nb] W fun e w' => ∃ g, e = .returned (.tuple #[.slice (some ⟨g, 0, none⟩) nb nb, .int .i64 0]) ∧ Shut (w'.rowIs g 4 nb (inAt (chosen nb i)) ∧ Below w6.heap.size w6 w') ∧ Below W.heap.size W w' := fun W hW => by
          have h1 := HST.out.2.2.2.2.1.trans (hW.mono HST.out.2.2.2.2.1.size)
          refine (of_any i nb W hi9 b1 b2 (HX.out.2.2.2.2.below h1)).mono ?_
          rintro e w' ⟨g, rfl, _, h2, h3⟩
          exact ⟨g, rfl, ⟨h2, hW.trans (h3.mono hW.size)⟩, h3⟩
        have D1 : Shut (Below w6.heap.size w6 w6.drew) := ⟨(Below.refl _ _).drew⟩
        have D0 : Shut (Below w6.heap.size w6 w6) := ⟨Below.refl _ _⟩
        have y0d : w6.drew.cell? ⟨sb, 0, none⟩ = some (.int .i64 i) := y0
        have p0d : w6.drew.cell? ⟨w.heap.size, 0, none⟩ = some (.int .i64 B) := p0
        have p1d : w6.drew.cell? ⟨w.heap.size, 1, none⟩ = some (.int .i64 K) := p1
        go_region_held3 (fun w' => w'.cell? ⟨sb, 0, none⟩ = some (.int .i64 i) ∧ w'.cell? ⟨w.heap.size, 0, none⟩ = some (.int .i64 B) ∧ w'.cell? ⟨w.heap.size, 1, none⟩ = some (.int .i64 K)) (exact ⟨by assumption, by assumption, by assumption⟩) (first | (go_at_call 20; (first | refine (hBk w6).mono ?_ | refine (hBk w6.drew).mono ?_); rintro e w7 ⟨rfl, hb7⟩; have h67 : Below w6.heap.size w6 w7 := (by first | exact hb7 | exact D1.out.trans (hb7.mono D1.out.size)); have v0 := cellC y0 h67; have v1 := cellC p0 h67; have v2 := cellC p1 h67) | (go_at_call 24; refine (hO w7 h67).mono ?_; rintro e w8 ⟨g8, rfl, HO8, hb8⟩; have h68 := HO8.out.2; have u0 := cellC y0 h68; have u1 := cellC p0 h68; have u2 := cellC p1 h68))
        all_goals
          clear hO D1 D0 y0d p0d p1d v0 v1 v2 u0 u1 u2 hb7 hb8 h67
          replace HST := Shut.mk (And.intro (own_below2 HST.out.1 h68) (And.intro HST.out.2.1 (And.intro (fun r (hr : r ∈ rows) => And.intro ((HST.out.2.2.1 r hr).1.below h68) (And.intro ((HST.out.2.2.1 r hr).2.1.below h68 (Nat.le_refl _)) (HST.out.2.2.1 r hr).2.2)) (And.intro (blk_below HST.out.2.2.2.1 h68) (And.intro (HST.out.2.2.2.2.1.trans (h68.mono HST.out.2.2.2.2.1.size)) (And.intro HST.out.2.2.2.2.2.1 (And.intro (blk_below HST.out.2.2.2.2.2.2.1 h68) HST.out.2.2.2.2.2.2.2)))))))
          have y1' := cellC y1 h68
          have hown := HST.out.1
          have hsz := HST.out.2.2.2.2.1.size
          clear y0 y1 p0 p1 h68
          go_wp2_with (first | (at_builtin; refine wpList_append_own _ rfl _ _ 51 rfl (w.heap.size + 1) 62 i0 (.agg #[.slice none 0 0, .slice none 0 0]) 2 48 Tryd.underlying51 hii hz0 hz1 hz2 rfl (by decide) _ _ _ rfl (hown.alloc _) ⟨w8.heap.size, 0, none⟩ 1 1 [.slice (some ⟨g8, 0, none⟩) nb nb, .slice ya k yc] rfl rfl ?c1 ?c2 ?c3 ?c4 ?c5 ?_) | go_in)
          case c1 =>
            intro j u hj
            match j, hj with
            | 0, hj => simp at hj; subst hj; simp [Addr.add]
            | 1, hj => simp at hj; subst hj; simp [Addr.add]
          case c2 => intro u hu; simp at hu; rcases hu with rfl | rfl <;> rfl
          case c3 => unfold maxLen; omega
          case c4 => have := blk_lt HST.out.2.2.2.1; omega
          case c5 => simp; omega
          intro v' w9 hown' hgrow _
          have bd : Below w8.heap.size w8 (w8.alloc (.cells #[.slice (some ⟨g8, 0, none⟩) nb nb, .slice ya k yc] 62)) := (Below.refl _ _).alloc (Nat.le_refl _) _
          have R : Shut (RwsSt w w9 B K nb k ls v' (q + 1)) := ⟨by
            have hob := own_below2 HST.out.1 bd
            have hrow := HO8.out.1
            have htb : TyB (w8.alloc (.cells #[.slice (some ⟨g8, 0, none⟩) nb nb, .slice ya k yc] 62)) (some ⟨g8, 0, none⟩) := fun g o e => by
              cases e
              obtain ⟨c, hc, _⟩ := hrow
              exact ⟨c, _, blk_below hc bd⟩
            have hlm := (mask_lies hrow).below bd (Nat.le_refl _)
            refine ⟨rows ++ [⟨some ⟨g8, 0, none⟩, nb, maskL nb i, ya, yc, yd⟩], ?_, ?_, fun r hr => ?_, ?_, ?_, ?_⟩
            · rw [rowCells_snoc]
              simp only [MRow.hv, MRow.dv, maskL_length, HDK.out]
              exact hown'
            · rw [List.map_append, HST.out.2.1, HDR.out.2, List.map_append]
              simp [MRow.says, MSym.says, rowOf]
            · rcases List.mem_append.1 hr with h | h
              · have h1 := HST.out.2.2.1 r h
                have t1 := h1.1.below bd
                exact ⟨t1.grown hgrow (t1.off hob), lies_grownBy hgrow (h1.2.1.below bd (Nat.le_refl _)) (t1.off hob), h1.2.2⟩
              · simp at h
                subst h
                exact ⟨htb.grown hgrow (htb.off hob), lies_grownBy hgrow hlm (htb.off hob), HST.out.2.2.2.2.2.2.2.1, ⟨maskL_length nb i, HDK.out⟩⟩
            · exact (hgrow.block _ (blk_lt (blk_below HST.out.2.2.2.1 bd)) fun e => by have := (own_lt HST.out.1 _ e.symm).1; omega).trans (blk_below HST.out.2.2.2.1 bd)
            · exact (HST.out.2.2.2.2.1.trans (bd.mono HST.out.2.2.2.2.1.size)).grown hgrow (by have := HST.out.2.2.2.2.1.size; simp; omega) fun g hg => by have := (own_lt HST.out.1 g hg).1; omega
            · rw [chkAll_drop HDR.out.1 HCK.out]; exact HST.out.2.2.2.2.2.1⟩
          clear hown' hgrow hown hsz HST bd y1' HO8
          go_wp2
          go_roundw
          case rel => exact ⟨q + 1, by omega, by go_num, R⟩
          case measure => simp [intOf]; omega
      · obtain ⟨qc, hqc⟩ : ∃ qc, chkS B K yid yd.length = qc := ⟨_, rfl⟩
        have HCK : Shut (chkAll B K ls = qc ∧ qc ≠ 0) := ⟨by rw [← HST.out.2.2.2.2.2.1, HDR.out.1]; show chkAll B K ((yid, yd) :: _) = qc; rw [chkAll, if_pos hck]; exact hqc, by rw [← hqc]; exact hck⟩
        rw [hqc] at hCS hck
        have hq1 : (qc != 0) = true := by simpa using hck
        clear hqc hck
        go_wp2_with fail
        rw [HW5.out.1]
        refine hCS.mono ?_
        rintro e w6 ⟨rfl, hb6⟩
        have hbw6 := HST.out.2.2.2.2.1.trans (hb6.mono HST.out.2.2.2.2.1.size)
        clear hCS v0 v1 p0 p1 a0 a1 hb6
        go_wp2
        go_ret2
        exact ⟨.inl ⟨by rw [HCK.out.1]; exact HCK.out.2, by rw [HCK.out.1]; rfl⟩, hbw6⟩
    · obtain rfl : q = m := by omega
      obtain ⟨rows, hown, hmp, hrs, hpb, hbw, hca⟩ := HI.out
      rw [List.take_of_length_le (by rw [HLS.out]; exact Nat.le_refl _)] at hmp
      rw [List.drop_of_length_le (by rw [HLS.out]; exact Nat.le_refl _)] at hca
      obtain ⟨ra, rc, hv, _, hml, _, _⟩ := own_rows hown
      subst hv
      have R : Shut (chkAll B K ls = 0 ∧ wr.ownsRow 0 62 2 (.slice ra q rc) q (rowCells rows) ∧ rows.length = q ∧ (∀ r ∈ rows, RowIn wr r) ∧ rows.map MRow.says = ls.map (rowOf nb) ∧ ∀ r ∈ rows, Fits nb k r.says) := ⟨by rw [← hca]; rfl, own_monoR hown (Nat.zero_le _), hml.symm, fun r hr => ⟨(hrs r hr).2.1, (hrs r hr).2.2.1.below hbw (Nat.le_refl _), by have := (hrs r hr).2.2.2.1; simp only [MRow.says] at this; rw [this]; unfold maxLen; omega, by have := (hrs r hr).2.2.2.2; simp only [MRow.says] at this; rw [this]; unfold maxLen; omega⟩, hmp, fun r hr => (hrs r hr).2.2.2⟩
      clear hown hmp hrs hpb hca HI hml
      go_wp2
      go_ret2
      exact ⟨.inr ⟨ra, rc, rows, rfl, R⟩, hbw⟩

end Go.Proofs.YtkiejflgphjfjacDoor
