/-
  The reference's KnownOf: its contract.
-/
import Derived.Test.YtclbmfjincekfabRow4
import Derived.Deep.RegionWith
namespace Go.Proofs.Ytclbmfjincekfab
open Go.RowKit
set_option linter.unusedVariables false
set_option linter.unusedSimpArgs false

/-- one row more is looked at -/
def kSet (l : List (List UInt8)) (r : LRow) : List (List UInt8) := if r.1.count true = 1 then l.set (firstI r.1).toNat r.2 else l

/-- what is known of each block; nothing: [] -/
def knownL (n : Nat) (A : List LRow) : List (List UInt8) := A.foldl kSet (List.replicate n [])

theorem kSet_length (l : List (List UInt8)) (r : LRow) : (kSet l r).length = l.length := by
  unfold kSet
  split <;> simp

theorem knownL_snoc (n : Nat) (A : List LRow) (r : LRow) : knownL n (A ++ [r]) = kSet (knownL n A) r := by simp [knownL, List.foldl_append]

theorem knownL_length (n : Nat) (A : List LRow) : (knownL n A).length = n := by
  unfold knownL
  have h : ∀ (A : List LRow) (l : List (List UInt8)), (A.foldl kSet l).length = l.length := by
    intro A
    induction A with
    | nil => intro l; rfl
    | cons r A ih => intro l; rw [List.foldl_cons, ih, kSet_length]
  rw [h, List.length_replicate]

def nilB : Blk := ⟨none, 0, []⟩

/-- the list in the making -/
def KInv (w wr : World) (g n : Nat) (A : List LRow) : Prop :=
  Below w.heap.size w wr ∧ w.heap.size ≤ g ∧ g < wr.heap.size ∧ ∃ bl : List Blk, bl.length = n ∧ wr.rowIs g 27 n (fun j => (bl[j]?.getD nilB).val) ∧ AllIn w bl ∧ bl.map Blk.l = knownL n A

theorem rowIs_below {w w' : World} {g n : Nat} {t : TypeId} {f : Nat → Value} (h : w.rowIs g t n f) (hb : Below w.heap.size w w') (hg : g < w.heap.size) : w'.rowIs g t n f := by
  unfold World.rowIs at *
  rw [hb.block g hg]
  exact h

theorem KInv.start {w W0 : World} {n : Nat} (hb : Below w.heap.size w W0) : KInv w (W0.alloc (.cells (madeCells #[Value.slice none 0 0] n) 27)) W0.heap.size n [] := by
  refine ⟨hb.alloc hb.size _, hb.size, by simp, List.replicate n nilB, by simp, ?_, ?_, ?_⟩
  · refine (World.rowIs_made W0 _ n _).congr fun j hj => ?_
    simp [hj, nilB, Blk.val]
  · intro b hb'
    obtain rfl := List.eq_of_mem_replicate hb'
    exact ⟨Lies.nil _ _, by simp [nilB, maxLen]⟩
  · simp [knownL, nilB]

theorem KInv.below {w wr w' : World} {g n : Nat} {A : List LRow} (h : KInv w wr g n A) (hb : Below wr.heap.size wr w') : KInv w w' g n A := by
  obtain ⟨h1, h2, h3, bl, h4, h5, h6, h7⟩ := h
  exact ⟨h1.trans (hb.mono h1.size), h2, by have := hb.size; omega, bl, h4, rowIs_below h5 hb h3, h6, h7⟩

/-- a row that has one block alone -/
theorem KInv.put {w wr : World} {g n F : Nat} {A : List LRow} {r : MRow} (h : KInv w wr g n A) (hc : r.h.count true = 1) (hF : firstI r.h = F) (hr : RowIn w r) :
    KInv w (wr.setCell ⟨g, F, none⟩ r.dv) g n (A ++ [r.says]) := by
  obtain ⟨h1, h2, h3, bl, h4, h5, h6, h7⟩ := h
  have hb : Below w.heap.size w (wr.setCell ⟨g, F, none⟩ r.dv) := h1.setCell (p := ⟨g, F, none⟩) (by simpa using h2) _
  refine ⟨hb, h2, by simpa using h3, bl.set F ⟨r.da, r.dc, r.d⟩, by simpa using h4, ?_, ?_, ?_⟩
  · refine (h5.set F _).congr fun j hj => ?_
    by_cases e : j = F
    · subst e
      simp [h4, hj, Blk.val, MRow.dv]
    · rw [if_neg e, List.getElem?_set_ne (Ne.symm e)]
  · intro b hb'
    rcases List.mem_or_eq_of_mem_set hb' with hm | rfl
    · exact h6 b hm
    · exact ⟨hr.2.1, hr.2.2.2⟩
  · rw [knownL_snoc, kSet, show r.says.1.count true = 1 from hc, if_pos rfl, List.map_set, h7]
    show _ = (knownL n A).set (firstI r.h).toNat r.d
    rw [hF]
    simp

theorem KInv.pass {w wr : World} {g n : Nat} {A : List LRow} {r : MRow} (h : KInv w wr g n A) (hc : ¬ r.h.count true = 1) : KInv w wr g n (A ++ [r.says]) := by
  obtain ⟨h1, h2, h3, bl, h4, h5, h6, h7⟩ := h
  refine ⟨h1, h2, h3, bl, h4, h5, h6, ?_⟩
  rw [knownL_snoc, kSet, if_neg (by exact hc), h7]

theorem count_first {h : List Bool} (hc : h.count true = 1) : ∃ F : Nat, firstI h = F ∧ F < h.length := by
  rcases firstI_range h with e | ⟨k, e, hk, _⟩
  · exfalso
    have := (firstI_no (r := (h, []))).1 e
    have h0 : h.count true = 0 := List.count_eq_zero.2 fun hm => by
      obtain ⟨i, hi, hx⟩ := List.getElem_of_mem hm
      have h2 := this i
      rw [LRow.v_has hi] at h2
      simp only at h2
      rw [hx] at h2
      simp at h2
    omega
  · exact ⟨k, e, hk⟩

set_option maxRecDepth 4000 in
set_option maxHeartbeats 1000000 in
theorem knownOf_any (s : MSys) (n k : Nat) (w : World) (hs : SysIn w s) (hB : s.B = n) (hK : s.K = k) (hn1 : 1 ≤ n) (hn : n ≤ 24) (hm : s.rows.length ≤ 24) (hf : ∀ r ∈ s.rows, r.h.length = n) :
    Calls Try.prog 15 #[.agg #[.int .i64 s.B, .int .i64 s.K, .slice s.ra s.rows.length s.rc]] w fun e w' =>
      ∃ (g : Nat) (bl : List Blk), e = .returned (.slice (some ⟨g, 0, none⟩) n n) ∧ Lies w' (some ⟨g, 0, none⟩) (bl.map Blk.val) ∧ AllIn w' bl ∧ bl.map Blk.l = knownL n (s.rows.map MRow.says) ∧ w.heap.size ≤ g ∧ Below w.heap.size w w' := by
  obtain ⟨B, K, ra, rc, rows⟩ := s
  simp only at *
  subst hB hK
  obtain ⟨hl, hr, _⟩ := hs
  simp only at hl hr
  have hb : Below w.heap.size w (w.alloc (.cells #[.int .i64 n, .int .i64 k, .slice ra rows.length rc] 24)) := (Below.refl _ _).alloc (Nat.le_refl _) _
  obtain ⟨x0, x1, x2⟩ := Box3.mk w (.int .i64 n) (.int .i64 k) (.slice ra rows.length rc) 24
  have H0 := Shut.mk (KInv.start (n := n) hb)
  have x2' := cellC x2 ((Below.refl _ _).alloc (Nat.le_refl _) (.cells (madeCells #[Value.slice none 0 0] n) 27))
  have hmk := run_make_row' (P := Try.prog) 35 27 (.slice none 0 0) 24 Try.underlying35 infoBlk rfl .i64 .i64 n (by omega) (by omega)
  go_enter Try.func15, Try.ntmps15
  go_wp2
  obtain ⟨W1, hW1⟩ : ∃ W1, (w.alloc (.cells #[.int .i64 n, .int .i64 k, .slice ra rows.length rc] 24)).alloc (.cells (madeCells #[Value.slice none 0 0] n) 27) = W1 := ⟨_, rfl⟩
  rw [hW1] at H0 ⊢
  have e0 : (w.alloc (.cells #[.int .i64 n, .int .i64 k, .slice ra rows.length rc] 24)).heap.size = w.heap.size + 1 := by simp
  rw [e0] at H0
  clear hW1 e0 hmk x0 x1 x2 x2' hb
  go_loopw [15] (fun m wr => ∃ q : Nat, q ≤ rows.length ∧ m = .int .i64 q ∧ Shut (KInv w wr (w.heap.size + 1) n ((rows.map MRow.says).take q))) (fun m _ => rows.length - (intOf m).toNat)
  case atStart => exact ⟨0, Nat.zero_le _, rfl, ⟨by simpa using H0.out⟩⟩
  case round =>
    clear H0
    obtain ⟨q, hq, rfl, HI⟩ := hrel
    by_cases hlt : q < rows.length
    · obtain ⟨ab, ao, rfl⟩ := hl.some (k := 2 * q) (by rw [rowCells_length]; omega)
      obtain ⟨a0, a1⟩ := row_at (hl.below HI.out.1 (Nat.le_refl _)) hlt
      have rA := hr _ (List.getElem_mem hlt)
      have HT : Shut ((rows.map MRow.says).take (q + 1) = (rows.map MRow.says).take q ++ [rows[q].says]) := ⟨by rw [List.take_succ_eq_append_getElem (by simpa using hlt)]; simp⟩
      have HLn := Shut.mk (hf _ (List.getElem_mem hlt))
      generalize rows[q]'hlt = R at *
      have hla := rA.1.below HI.out.1 (Nat.le_refl _)
      obtain ⟨ha, hc, rh, da, dc, rd⟩ := R
      simp only [MRow.hv, MRow.dv] at a0 a1 HLn hla
      have hrn : rh.length ≤ 24 := by rw [HLn.out]; exact hn
      have bd : Below wr.heap.size wr (wr.alloc (.cells #[.slice ha rh.length hc, .slice da rd.length dc] 29)) := (Below.refl _ _).alloc (Nat.le_refl _) _
      obtain ⟨v0, v1⟩ := Box2.mk wr (.slice ha rh.length hc) (.slice da rd.length dc) 29
      have HI2 := Shut.mk (HI.out.below bd)
      replace hla := hla.below bd (Nat.le_refl _)
      clear HI bd
      go_wp2
      obtain ⟨w2, hw2⟩ : ∃ w2, wr.alloc (.cells #[.slice ha rh.length hc, .slice da rd.length dc] 29) = w2 := ⟨_, rfl⟩
      obtain ⟨gr, hgr⟩ : ∃ gr, wr.heap.size = gr := ⟨_, rfl⟩
      rw [hw2, hgr] at v0 v1 ⊢
      rw [hw2] at HI2 hla
      clear hw2 hgr a0 a1
      go_loopw [6, 22] (fun c m wq => ∃ p : Nat, p ≤ rh.length ∧ m = .int .i64 p ∧ c = .int .i64 ((rh.take p).count true : Nat) ∧ wq = w2) (fun _ m _ => rh.length - (intOf m).toNat)
      case atStart => exact ⟨0, Nat.zero_le _, rfl, rfl, rfl⟩
      case round =>
        obtain ⟨p, hp, rfl, rfl, rfl⟩ := hrel
        by_cases hlp : p < rh.length
        · obtain ⟨b1, o1, rfl⟩ := hla.some (k := p) (by simpa using hlp)
          have c1 : wr.cell? ⟨b1, o1 + p, none⟩ = some (.bool rh[p]) := hla.at (by simp [hlp])
          have HC1 : Shut ((rh.take (p + 1)).count true = (rh.take p).count true + (if rh[p] = true then 1 else 0)) := ⟨by rw [List.take_succ_eq_append_getElem hlp, List.count_append]; cases rh[p] <;> rfl⟩
          have hcl : (rh.take p).count true ≤ 24 := Nat.le_trans List.count_le_length (by simp; omega)
          generalize (rh.take p).count true = cn at *
          clear hla
          cases hx : rh[p]
          · rw [hx] at c1 HC1
            clear hx
            go_wp2
            exact ⟨⟨p + 1, by omega, by go_num, by rw [HC1.out]; rfl, trivial⟩, by simp [intOf]; omega⟩
          · rw [hx] at c1 HC1
            clear hx
            go_wp2
            exact ⟨⟨p + 1, by omega, by go_num, by rw [HC1.out]; go_num, trivial⟩, by simp [intOf]; omega⟩
        · have HCE : Shut ((rh.take p).count true = rh.count true) := ⟨by rw [List.take_of_length_le (by omega)]⟩
          rw [HCE.out]
          clear HCE hla
          by_cases hc1 : rh.count true = 1
          · have e1 : ((rh.count true : Int) == 1) = true := by simp [hc1]
            obtain ⟨F, hF0, hF1⟩ := count_first hc1
            have HFF := Shut.mk hF0
            have hFn : F < n := by rw [← HLn.out]; exact hF1
            have hCF : Calls Try.prog 27 #[.agg #[.slice ha rh.length hc, .slice da rd.length dc]] wr.drew fun e w' => e = .returned (.int .i64 F) ∧ Below wr.drew.heap.size wr.drew w' := by
              have h := firstOf_any ⟨ha, hc, rh, da, dc, rd⟩ wr.drew ((rA.below HI2.out.1).below ((Below.refl _ _).drew))
              rw [show firstI rh = F from HFF.out] at h
              exact h
            have HI3 : Shut (∀ w', Below wr.drew.heap.size wr.drew w' → KInv w w' (w.heap.size + 1) n ((rows.map MRow.says).take q)) := ⟨fun w' hb => HI2.out.below (((Below.refl _ _).drew).trans hb)⟩
            have HI4 : Shut (∀ w', Below wr.drew.heap.size wr.drew w' → KInv w (w'.setCell ⟨w.heap.size + 1, F, none⟩ (.slice da rd.length dc)) (w.heap.size + 1) n ((rows.map MRow.says).take (q + 1))) := ⟨fun w' hb => by
              rw [HT.out]
              exact (HI2.out.below (((Below.refl _ _).drew).trans hb)).put (r := ⟨ha, hc, rh, da, dc, rd⟩) hc1 hF0 rA⟩
            clear hc1 hF0 hF1 rA HI2 hl hr hq
            go_upto_region 13 with fail
            generalize rh.count true = cn at *
            go_region_with (first | (go_at_call 27; refine hCF.mono ?_; rintro e w4 ⟨rfl, hb4⟩; have v1' := cellC (w := wr.drew) v1 hb4; have hI4 := HI3.out w4 hb4; obtain ⟨j1, j2, j3, bl, j4, j5, j6, j7⟩ := hI4; have j8 := j5.cell hFn; have j9 := j5.frozen F))
            all_goals
              have R := Shut.mk (HI4.out w4 hb4)
              clear v0 v1 hCF HI3 HI4 v1' j1 j2 j3 j4 j5 j6 j7 j8 j9 hb4 hlp hp
              generalize w4.setCell ⟨w.heap.size + 1, F, none⟩ (.slice da rd.length dc) = w5 at *
              go_wp2
              go_roundw
              case rel => exact ⟨q + 1, by omega, by go_num, R⟩
              case measure =>
                show rows.length - (intOf (.int .i64 ((q : Int) + 1))).toNat < rows.length - (intOf (.int .i64 (q : Int))).toNat
                simp [intOf]
                omega
          · have HI3 : Shut (KInv w wr (w.heap.size + 1) n ((rows.map MRow.says).take (q + 1))) := ⟨by rw [HT.out]; exact HI2.out.pass hc1⟩
            have e1 : ((rh.count true : Int) == 1) = false := by simp; omega
            generalize rh.count true = cn at *
            clear HI2 hl hr rA HT hc1
            go_wp2
            go_roundw
            case rel => exact ⟨q + 1, by omega, by go_num, HI3⟩
            case measure =>
              show rows.length - (intOf (.int .i64 ((q : Int) + 1))).toNat < rows.length - (intOf (.int .i64 (q : Int))).toNat
              simp [intOf]
              omega
    · have HE : Shut (KInv w wr (w.heap.size + 1) n (rows.map MRow.says)) := ⟨by have h := HI.out; rwa [List.take_of_length_le (by simp; omega)] at h⟩
      clear HI hl hr
      go_wp2
      go_ret
      obtain ⟨h1, h2, h3, bl, h4, h5, h6, h7⟩ := HE.out
      refine ⟨w.heap.size + 1, bl, rfl, ?_, h6.below h1, h7, h2, h1⟩
      have := rowIs_lies h5
      have e : (List.range n).map (fun j => (bl[j]?.getD nilB).val) = bl.map Blk.val := by
        apply List.ext_getElem
        · simp [h4]
        · intro i p1 p2
          simp at p2
          simp [p2]
      rwa [e] at this

end Go.Proofs.Ytclbmfjincekfab
