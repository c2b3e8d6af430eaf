/-
  peel.unknown, peel.rest: the contract of each.
-/
import Derived.Test.YtkiejflgphjfjacDoorPart9
import Derived.Test.YtkiejflgphjfjacDoorPart10
import Derived.Test.YtkiejflgphjfjacDoorPart19
import Derived.Test.YtkiejflgphjfjacDoorPart3
namespace Go.Proofs.YtkiejflgphjfjacDoor
open Go.RowKit
set_option linter.unusedVariables false
set_option linter.unusedSimpArgs false

/-- each lies in a block of bytes -/
def TyU (w : World) (a : Option Addr) : Prop := ∀ g o, a = some ⟨g, o, none⟩ → ∃ cur f, w.heap[g]? = some (.cells cur 5 f)

theorem TyU.below {w w' : World} {a : Option Addr} (h : TyU w a) (hb : Below w.heap.size w w') : TyU w' a := fun g o e => by
  obtain ⟨c, f, hc⟩ := h g o e
  exact ⟨c, f, blk_below hc hb⟩

/-- what is known, in a block of its own -/
def KnAt (w : World) (kb nb k : Nat) (bl : List Blk) (K : Kn) : Prop :=
  w.heap[kb]? = some (.cells (bl.map Blk.val).toArray 36 (0, 0)) ∧ bl.length = nb ∧ AllIn w bl ∧ (∀ b ∈ bl, b.l = [] → b = nilB) ∧ bl.map Blk.l = K ∧ KOk nb k K ∧ ∀ b ∈ bl, TyU w b.a

theorem KnAt.below {w w' : World} {kb nb k : Nat} {bl : List Blk} {K : Kn} (h : KnAt w kb nb k bl K) (hb : Below w.heap.size w w') : KnAt w' kb nb k bl K :=
  ⟨blk_below h.1 hb, h.2.1, h.2.2.1.below hb, h.2.2.2.1, h.2.2.2.2.1, h.2.2.2.2.2.1, fun b hb' => (h.2.2.2.2.2.2 b hb').below hb⟩

theorem KnAt.cell {w : World} {kb nb k : Nat} {bl : List Blk} {K : Kn} (h : KnAt w kb nb k bl K) {j : Nat} (hj : j < bl.length) : w.cell? ⟨kb, j, none⟩ = some (.slice bl[j].a bl[j].l.length bl[j].cap) := by
  rw [cell_blk h.1]
  simp [hj, Blk.val]

theorem KnAt.l {w : World} {kb nb k : Nat} {bl : List Blk} {K : Kn} (h : KnAt w kb nb k bl K) {j : Nat} (hj : j < bl.length) : K.getD j [] = bl[j].l := by
  rw [← h.2.2.2.2.1]
  simp [List.getD_eq_getElem?_getD, hj]

theorem miss_succ (q : Nat) (h : List Bool) (K : Kn) : missL (q + 1) h K = if (h.getD q false && !knw K q) = true then missL q h K ++ [q] else missL q h K := by
  unfold missL
  rw [List.range_succ, List.filter_append]
  by_cases e : (h.getD q false && !knw K q) = true
  · rw [if_pos e]; simp only [List.filter_cons, e, if_true, List.filter_nil]
  · rw [if_neg e]; simp only [List.filter_cons, List.filter_nil]; rw [if_neg e]; simp

theorem use_succ (q : Nat) (h : List Bool) (K : Kn) : useL (q + 1) h K = if (h.getD q false && knw K q) = true then useL q h K ++ [q] else useL q h K := by
  unfold useL
  rw [List.range_succ, List.filter_append]
  by_cases e : (h.getD q false && knw K q) = true
  · rw [if_pos e]; simp only [List.filter_cons, e, if_true, List.filter_nil]
  · rw [if_neg e]; simp only [List.filter_cons, List.filter_nil]; rw [if_neg e]; simp

theorem miss_len (q : Nat) (h : List Bool) (K : Kn) : (missL q h K).length ≤ q := by
  have := List.length_filter_le (fun j => h.getD j false && !knw K j) (List.range q)
  simpa [missL] using this

theorem use_len (q : Nat) (h : List Bool) (K : Kn) : (useL q h K).length ≤ q := by
  have := List.length_filter_le (fun j => h.getD j false && knw K j) (List.range q)
  simpa [useL] using this

def nats (l : List Nat) : List Int := l.map fun j : Nat => (j : Int)

theorem is_nats (l : List Nat) (q : Nat) : is (nats (l ++ [q])) = is (nats l) ++ [.int .i64 (q : Int)] := by simp [is, nats]

/-- a list in the making -/
def MissInv (w wr : World) (v : Value) (l : List Nat) : Prop := wr.ownsRow w.heap.size 3 1 v l.length (is (nats l)) ∧ Below w.heap.size w wr

theorem MissInv.next {w wr w4 : World} {v v' : Value} {l : List Nat} {q : Nat} {o : Obj} (h : MissInv w wr v l) (ho : w4.ownsRow w.heap.size 3 1 v' (l.length + 1) (is (nats l) ++ [.int .i64 (q : Int)])) (hg : (wr.alloc o).grownBy w4 v.ownBlock) : MissInv w w4 v' (l ++ [q]) := by
  refine ⟨by rw [is_nats, List.length_append]; exact ho, ?_⟩
  refine (h.2.alloc h.2.size o).grown hg (by have := h.2.size; simp; omega) ?_
  intro g hg'
  exact (h.1.lt g hg').1

set_option maxRecDepth 8000 in
set_option maxHeartbeats 1000000 in
theorem unknown_any (nb k kb : Nat) (ha : Option Addr) (hc : Nat) (h : List Bool) (dv : Value) (bl : List Blk) (K : Kn) (w : World) (hl : Lies w ha (h.map Value.bool)) (hn : h.length = nb) (n1 : 1 ≤ nb) (n2 : nb ≤ 24) (hK : KnAt w kb nb k bl K) :
    Calls Tryd.prog 79 #[.agg #[.slice ha nb hc, dv], .slice (some ⟨kb, 0, none⟩) nb nb] w fun e w' => ∃ (p : Option Addr) (q : Nat), e = .returned (.slice p (missL nb h K).length q) ∧ Lies w' p (is (nats (missL nb h K))) ∧ Below w.heap.size w w' := by
  obtain ⟨i0, hii, hz0, hz1, hz2⟩ := info_parts infoI
  have hBl : Below w.heap.size w (w.alloc (.cells #[.slice ha nb hc, dv] 62)) := (Below.refl _ _).alloc (Nat.le_refl _) _
  obtain ⟨x0, x1⟩ := Box2.mk w (.slice ha nb hc) dv 62
  obtain ⟨hb0, ho0, hha⟩ := hl.some (k := 0) (by simp; omega)
  subst hha
  have HL := Shut.mk (And.intro (hl.below hBl (Nat.le_refl _)) (And.intro hn (hK.below hBl)))
  clear hl hn hK
  go_enter Tryd.func79, Tryd.ntmps79
  have H0 : Shut (MissInv (w.alloc (.cells #[.slice (some ⟨hb0, ho0, none⟩) nb hc, dv] 62)) (w.alloc (.cells #[.slice (some ⟨hb0, ho0, none⟩) nb hc, dv] 62)) (.slice none 0 0) (missL 0 h K)) := ⟨World.ownsRow_nil _ _ _ _, Below.refl _ _⟩
  go_wp2
  obtain ⟨W0, hW0⟩ : ∃ W0, w.alloc (.cells #[.slice (some ⟨hb0, ho0, none⟩) nb hc, dv] 62) = W0 := ⟨_, rfl⟩
  rw [hW0] at hBl HL H0 ⊢
  clear hW0 x0 x1
  go_loopw [5, 11] (fun v i wr => ∃ q : Nat, q ≤ nb ∧ i = .int .i64 q ∧ Shut (MissInv W0 wr v (missL q h K))) (fun _ i _ => nb - (intOf i).toNat)
  case atStart => exact ⟨0, Nat.zero_le _, rfl, H0⟩
  case round =>
    clear H0
    obtain ⟨q, hq, rfl, HI⟩ := hrel
    have hml := miss_len q h K
    by_cases hlt : q < nb
    · have hqh : q < h.length := by rw [HL.out.2.1]; exact hlt
      have hbr := HI.out.2
      have c1 := (HL.out.1.below hbr (Nat.le_refl _)).at (k := q) (u := .bool h[q]) (by simp [hqh])
      have hKr := HL.out.2.2.below hbr
      have hqb : q < bl.length := by rw [hKr.2.1]; exact hlt
      have c2 := hKr.cell hqb
      have hgd : h.getD q false = h[q] := by simp [List.getD_eq_getElem?_getD, hqh]
      have hms := miss_succ q h K
      rw [hgd] at hms
      have hkn : knw K q = !bl[q].l.isEmpty := by unfold knw; rw [hKr.l hqb]
      have hnl := hKr.2.2.2.1 bl[q] (List.getElem_mem hqb)
      have hin := hKr.2.2.1 bl[q] (List.getElem_mem hqb)
      generalize h[q]'hqh = hx at *
      generalize bl[q]'hqb = X at *
      obtain ⟨Xa, Xc, Xl⟩ := X
      simp only at *
      cases hx
      · rw [if_neg (by simp)] at hms
        have R : Shut (MissInv W0 wr _ (missL (q + 1) h K)) := ⟨by rw [hms]; exact HI.out⟩
        clear hms hkn hnl hin hKr hbr HI
        go_wp2
        go_roundw
        case rel => exact ⟨q + 1, by omega, by go_num, R⟩
        case measure => simp [intOf]; omega
      · by_cases hX : Xl = []
        · have hXn := hnl hX
          injection hXn with e1 e2 e3
          subst e1 e2 e3
          rw [if_pos (by rw [hkn]; simp)] at hms
          have hne : ∀ W : World, (binOp .eql 36 (.slice none 0 0) (.slice none 0 0)).run Tryd.prog W = .ok (.bool true) W := fun W => Lib.run_eql_slice_nil W 36 5 none 0 0 0 0 Tryd.underlying36
          simp only [List.length_nil] at c2
          have hown := HI.out.1
          have hsz := HI.out.2.size
          clear hkn hnl hin hKr hbr hX
          go_wp2_with (first | (at_builtin; refine wpList_append_own _ rfl _ _ 32 rfl W0.heap.size 3 i0 (.int .i64 0) 1 8 Tryd.underlying32 hii hz0 hz1 hz2 rfl (by decide) _ _ _ rfl (hown.alloc _) ⟨wr.heap.size, 0, none⟩ 1 1 [.int .i64 q] rfl rfl ?c1 ?c2 ?c3 ?c4 ?c5 ?_) | go_in)
          case c1 =>
            intro j u hj
            match j, hj with
            | 0, hj => simp at hj; subst hj; simp [Addr.add]
          case c2 => intro u hu; simp at hu; subst hu; rfl
          case c3 => unfold maxLen; omega
          case c4 => omega
          case c5 => simp; omega
          intro v' w4 hown' hgrow _
          have R : Shut (MissInv W0 w4 v' (missL (q + 1) h K)) := ⟨by rw [hms]; exact HI.out.next hown' hgrow⟩
          clear hown' hgrow hown hsz HI hms
          go_wp2
          go_roundw
          case rel => exact ⟨q + 1, by omega, by go_num, R⟩
          case measure => simp [intOf]; omega
        · obtain ⟨xb, xo, hxa⟩ := hin.1.some (k := 0) (by simpa [bs] using List.length_pos_iff.2 hX)
          subst hxa
          rw [if_neg (by rw [hkn]; simp [hX])] at hms
          have hne : ∀ W : World, (binOp .eql 36 (.slice (some ⟨xb, xo, none⟩) Xl.length Xc) (.slice none 0 0)).run Tryd.prog W = .ok (.bool false) W := fun W => Lib.run_eql_slice_nil W 36 5 (some ⟨xb, xo, none⟩) Xl.length Xc 0 0 Tryd.underlying36
          have R : Shut (MissInv W0 wr _ (missL (q + 1) h K)) := ⟨by rw [hms]; exact HI.out⟩
          clear hms hkn hnl hin hKr hbr HI hX
          go_wp2
          go_roundw
          case rel => exact ⟨q + 1, by omega, by go_num, R⟩
          case measure => simp [intOf]; omega
    · obtain rfl : q = nb := by omega
      obtain ⟨fa, fc, hfv, hfc⟩ := own_slice HI.out.1
      subst hfv
      obtain ⟨fa', fc', hv', hfl, hfn⟩ := own_lies HI.out.1
      cases hv'
      clear hfn
      have hF := hBl.trans (HI.out.2.mono hBl.size)
      clear HI
      go_wp2
      go_ret
      exact ⟨fa, fc, rfl, hfl, hF⟩

theorem xorl_zeros {d : List UInt8} : xorl (zeros d.length) d = d := by
  apply List.ext_getElem
  · rw [xorl_length _ _ (by simp [zeros])]; simp [zeros]
  · intro t h1 h2
    simp [xorl, zeros]

/-- a block of the sum, whatever is known of it: of the right length -/
def padB (k : Nat) (K : Kn) (j : Nat) : List UInt8 := if (K.getD j []).length = k then K.getD j [] else zeros k

theorem padB_length (k : Nat) (K : Kn) (j : Nat) : (padB k K j).length = k := by
  unfold padB
  split
  · assumption
  · simp [zeros]

theorem KOk.knw_len {n k : Nat} {K : Kn} (h : KOk n k K) {j : Nat} (hj : knw K j = true) : (K.getD j []).length = k := by
  unfold knw at hj
  by_cases hl : j < K.length
  · have e : K.getD j [] = K[j] := by simp [List.getD_eq_getElem?_getD, hl]
    rw [e] at hj ⊢
    rcases h.2 _ (List.getElem_mem hl) with h1 | h1
    · rw [h1] at hj; simp at hj
    · exact h1
  · rw [List.getD_eq_getElem?_getD, List.getElem?_eq_none (by omega)] at hj
    simp at hj

/-- the sum of a row's bytes and the known blocks, in whatever order -/
theorem rest_sum {n k : Nat} {h : List Bool} {d : List UInt8} {K : Kn} (hd : d.length = k) (hK : KOk n k K) {l : List Nat} (hp : l.Perm (useL n h K)) : sumOf (d :: l.map fun j => K.getD j []) = restL n k (h, d) K := by
  have hmem : ∀ j, j ∈ l ↔ j ∈ useL n h K := fun j => hp.mem_iff
  have e1 : (l.map fun j => K.getD j []) = l.map (padB k K) := List.map_congr_left fun j hj => by
    rw [padB, if_pos (hK.knw_len (mem_use.1 ((hmem j).1 hj)).2.2)]
  have hnd : l.Nodup := hp.nodup_iff.2 ((List.nodup_range (n := n)).filter _)
  have hlt : ∀ j ∈ l, j < n := fun j hj => (mem_use.1 ((hmem j).1 hj)).1
  have e0 : sumOf (d :: l.map fun j => K.getD j []) = sumTo d (l.map (padB k K)) := by
    rw [e1]
    show sumTo (xorl (zeros d.length) d) _ = _
    rw [xorl_zeros]
  rw [e0]
  have hlen : (sumTo d (l.map (padB k K))).length = k := sumTo_length d _ hd fun b hb => by
    obtain ⟨j, _, rfl⟩ := List.mem_map.1 hb
    exact padB_length k K j
  apply List.ext_getElem
  · rw [hlen, restL_length]
  · intro t h1 h2
    rw [← getD_of h1, ← getD_of h2, sumTo_at (fun j => padB_length k K j) t l d hd hnd hlt]
    have ht : t < k := by omega
    have e2 : (restL n k (h, d) K).getD t 0 = d.getD t 0 ^^^ sumAt (fun j t => (K.getD j []).getD t 0) (fun j => h.getD j false && knw K j) n t := by simp [restL, List.getD_eq_getElem?_getD, ht]
    rw [e2]
    congr 1
    have gen : ∀ m, m ≤ n → sumAt (fun j t => (padB k K j).getD t 0) (mask l) m t = sumAt (fun j t => (K.getD j []).getD t 0) (fun j => h.getD j false && knw K j) m t := by
      intro m
      induction m with
      | zero => intro _; rfl
      | succ m ih =>
        intro hm
        simp only [sumAt, ih (by omega)]
        by_cases hb : (h.getD m false && knw K m) = true
        · have hb2 : h.getD m false = true ∧ knw K m = true := by simpa using hb
          have hml : mask l m = true := by unfold mask; exact decide_eq_true ((hmem m).2 (mem_use.2 ⟨by omega, hb2.1, hb2.2⟩))
          rw [if_pos hb, if_pos hml, padB, if_pos (hK.knw_len hb2.2)]
        · have hml : ¬ mask l m = true := by
            unfold mask
            intro hh
            have := mem_use.1 ((hmem m).1 (of_decide_eq_true hh))
            exact hb (by rw [this.2.1, this.2.2]; rfl)
          rw [if_neg hb, if_neg hml]
    exact gen n (Nat.le_refl _)

/-- the blocks that are added -/
def useB (q : Nat) (h : List Bool) (K : Kn) (bl : List Blk) : List Blk := (useL q h K).map fun j => bl.getD j nilB

theorem useB_len (q : Nat) (h : List Bool) (K : Kn) (bl : List Blk) : (useB q h K bl).length = (useL q h K).length := by simp [useB]

/-- the blocks in the making -/
def RestInv (w wr : World) (v : Value) (bs : List Blk) : Prop := wr.ownsRow w.heap.size 36 1 v bs.length (bs.map Blk.val) ∧ Below w.heap.size w wr

theorem RestInv.next {w wr w4 : World} {v v' : Value} {l : List Blk} {b : Blk} {o : Obj} (h : RestInv w wr v l) (ho : w4.ownsRow w.heap.size 36 1 v' (l.length + 1) (l.map Blk.val ++ [b.val])) (hg : (wr.alloc o).grownBy w4 v.ownBlock) : RestInv w w4 v' (l ++ [b]) := by
  refine ⟨by rw [List.map_append, List.length_append]; exact ho, ?_⟩
  refine (h.2.alloc h.2.size o).grown hg (by have := h.2.size; simp; omega) ?_
  intro g hg'
  exact (h.1.lt g hg').1

theorem chk_all {k : Nat} {l : List Nat} (k1 : 1 ≤ k) (k2 : k ≤ 16) (h : ∀ x ∈ l, x = k) : chk l = 0 := by
  cases l with
  | nil => rfl
  | cons a l =>
    have ha : a = k := h a List.mem_cons_self
    unfold chk
    refine chkFrom_all fun i hi _ => ?_
    have := h _ (List.getElem_mem hi)
    rw [this]
    exact ⟨k1, k2, by simp [ha]⟩

set_option maxRecDepth 8000 in
set_option maxHeartbeats 1000000 in
theorem rest_any (nb k kb : Nat) (ha : Option Addr) (hc : Nat) (h : List Bool) (da : Option Addr) (dc : Nat) (d : List UInt8) (bl : List Blk) (K : Kn) (w : World) (hl : Lies w ha (h.map Value.bool)) (hn : h.length = nb) (hd : Lies w da (bs d)) (hdk : d.length = k) (k1 : 1 ≤ k) (k2 : k ≤ 16) (n1 : 1 ≤ nb) (n2 : nb ≤ 24) (hK : KnAt w kb nb k bl K) :
    Calls Tryd.prog 80 #[.agg #[.slice ha nb hc, .slice da k dc], .slice (some ⟨kb, 0, none⟩) nb nb] w fun e w' => ∃ (p : Option Addr) (q : Nat), e = .returned (.slice p k q) ∧ Lies w' p (bs (restL nb k (h, d) K)) ∧ TyU w' p ∧ Below w.heap.size w w' := by
  obtain ⟨i0, hii, hz0, hz1, hz2⟩ := info_parts infoBlk
  have hBl : Below w.heap.size w (w.alloc (.cells #[.slice ha nb hc, .slice da k dc] 62)) := (Below.refl _ _).alloc (Nat.le_refl _) _
  have hZ : (w.alloc (.cells #[.slice ha nb hc, .slice da k dc] 62)).heap[w.heap.size]? = some (.cells #[.slice ha nb hc, .slice da k dc] 62 (0, 0)) := by rw [heap_alloc_eq, if_pos rfl]
  obtain ⟨x0, x1⟩ := cells2 hZ
  obtain ⟨hb0, ho0, hha⟩ := hl.some (k := 0) (by simp; omega)
  subst hha
  obtain ⟨W0, hW0⟩ : ∃ W0, w.alloc (.cells #[.slice (some ⟨hb0, ho0, none⟩) nb hc, .slice da k dc] 62) = W0 := ⟨_, rfl⟩
  have HL := Shut.mk (And.intro (hl.below hBl (Nat.le_refl _)) (And.intro hn (And.intro (hK.below hBl) (And.intro (hd.below hBl (Nat.le_refl _)) hdk))))
  have bd : Below W0.heap.size W0 (W0.alloc (.cells #[.slice da k dc] 36)) := (Below.refl _ _).alloc (Nat.le_refl _) _
  have H0 : Shut (RestInv W0 (W0.alloc (.cells #[.slice da k dc] 36)) (.slice (some ⟨W0.heap.size, 0, none⟩) 1 1) (⟨da, dc, d⟩ :: useB 0 h K bl)) := ⟨⟨rfl, .inr ⟨W0.heap.size, 1, #[.slice da k dc], rfl, Nat.le_refl _, by rw [heap_alloc_eq, if_pos rfl], by simp [useB, useL], by unfold maxLen; omega, rfl, by simp [useB, useL, Blk.val, hdk]⟩⟩, bd⟩
  have y0 : (W0.alloc (.cells #[.slice da k dc] 36)).cell? ⟨w.heap.size, 0, none⟩ = some (.slice (some ⟨hb0, ho0, none⟩) nb hc) := cellC (by rw [← hW0]; exact x0) bd
  have HW := Shut.mk hW0
  have hs0 : W0.heap.size = w.heap.size + 1 := by rw [← hW0]; simp
  rw [hs0] at H0
  rw [hW0] at hBl HL x0 x1
  rw [← hW0] at y0 x0 x1
  clear hl hn hK hd hdk hZ hW0 bd hs0
  go_enter Tryd.func80, Tryd.ntmps80
  go_wp2
  rw [HW.out]
  clear x0 x1 y0
  go_loopw [5, 16] (fun v i wr => ∃ q : Nat, q ≤ nb ∧ i = .int .i64 q ∧ Shut (RestInv W0 wr v (⟨da, dc, d⟩ :: useB q h K bl))) (fun _ i _ => nb - (intOf i).toNat)
  case atStart => exact ⟨0, Nat.zero_le _, rfl, H0⟩
  case round =>
    clear H0
    obtain ⟨q, hq, rfl, HI⟩ := hrel
    have hml := use_len q h K
    have hub := useB_len q h K bl
    by_cases hlt : q < nb
    · have hqh : q < h.length := by rw [HL.out.2.1]; exact hlt
      have hbr := HI.out.2
      have c1 := (HL.out.1.below hbr (Nat.le_refl _)).at (k := q) (u := .bool h[q]) (by simp [hqh])
      have hKr := HL.out.2.2.1.below hbr
      have hqb : q < bl.length := by rw [hKr.2.1]; exact hlt
      have c2 := hKr.cell hqb
      have hgd : h.getD q false = h[q] := by simp [List.getD_eq_getElem?_getD, hqh]
      have hgb : bl.getD q nilB = bl[q] := by simp [List.getD_eq_getElem?_getD, hqb]
      have hms := use_succ q h K
      have hub2 : useB (q + 1) h K bl = (useL (q + 1) h K).map fun j => bl.getD j nilB := rfl
      rw [hms, hgd] at hub2
      have hkn : knw K q = !bl[q].l.isEmpty := by unfold knw; rw [hKr.l hqb]
      have hnl := hKr.2.2.2.1 bl[q] (List.getElem_mem hqb)
      have hin := hKr.2.2.1 bl[q] (List.getElem_mem hqb)
      clear hms
      generalize h[q]'hqh = hx at *
      generalize bl[q]'hqb = X at *
      cases hx
      · rw [if_neg (by simp)] at hub2
        have R : Shut (RestInv W0 wr _ (⟨da, dc, d⟩ :: useB (q + 1) h K bl)) := ⟨by rw [hub2]; exact HI.out⟩
        clear hub2 hkn hnl hin hKr hbr HI hub hgb hgd
        go_wp2
        go_roundw
        case rel => exact ⟨q + 1, by omega, by go_num, R⟩
        case measure => simp [intOf]; omega
      · by_cases hX : X.l = []
        · have hXn := hnl hX
          subst hXn
          rw [if_neg (by rw [hkn]; simp [nilB])] at hub2
          have hne : ∀ W : World, (binOp .neq 36 (.slice none 0 0) (.slice none 0 0)).run Tryd.prog W = .ok (.bool false) W := fun W => run_neq_slice_nil_any W 36 5 none 0 0 0 0 Tryd.underlying36
          simp only [nilB, List.length_nil] at c2
          have R : Shut (RestInv W0 wr _ (⟨da, dc, d⟩ :: useB (q + 1) h K bl)) := ⟨by rw [hub2]; exact HI.out⟩
          clear hkn hnl hin hKr hbr hX hub2 HI hub hgb hgd
          go_wp2
          go_roundw
          case rel => exact ⟨q + 1, by omega, by go_num, R⟩
          case measure => simp [intOf]; omega
        · obtain ⟨xb, xo, hxa⟩ := hin.1.some (k := 0) (by simpa [bs] using List.length_pos_iff.2 hX)
          rw [if_pos (by rw [hkn]; simp [hX]), List.map_append] at hub2
          simp only [List.map_cons, List.map_nil, hgb] at hub2
          have hown := HI.out.1
          have hsz := HI.out.2.size
          obtain ⟨Xa, Xc, Xl⟩ := X
          simp only at hxa hX c2
          subst hxa
          have hne : ∀ W : World, (binOp .neq 36 (.slice (some ⟨xb, xo, none⟩) Xl.length Xc) (.slice none 0 0)).run Tryd.prog W = .ok (.bool true) W := fun W => run_neq_slice_nil_any W 36 5 (some ⟨xb, xo, none⟩) Xl.length Xc 0 0 Tryd.underlying36
          clear hkn hnl hin hKr hbr hX hgb hgd
          go_wp2_with (first | (at_builtin; refine wpList_append_own _ rfl _ _ 48 rfl W0.heap.size 36 i0 (.slice none 0 0) 1 24 Tryd.underlying48 hii hz0 hz1 hz2 rfl (by decide) _ _ _ rfl (hown.alloc _) ⟨wr.heap.size, 0, none⟩ 1 1 [.slice (some ⟨xb, xo, none⟩) Xl.length Xc] rfl rfl ?c1 ?c2 ?c3 ?c4 ?c5 ?_) | go_in)
          case c1 =>
            intro j u hj
            match j, hj with
            | 0, hj => simp at hj; subst hj; simp [Addr.add]
          case c2 => intro u hu; simp at hu; subst hu; rfl
          case c3 => unfold maxLen; simp [hub]; omega
          case c4 => simp [hub]; omega
          case c5 => simp [hub]; omega
          intro v' w4 hown' hgrow _
          have R : Shut (RestInv W0 w4 v' (⟨da, dc, d⟩ :: useB (q + 1) h K bl)) := ⟨by rw [hub2]; exact HI.out.next (b := ⟨some ⟨xb, xo, none⟩, Xc, Xl⟩) (by rw [List.length_cons, hub]; exact hown') hgrow⟩
          clear hown' hgrow hown hsz HI hub2 hub
          go_wp2
          go_roundw
          case rel => exact ⟨q + 1, by omega, by go_num, R⟩
          case measure => simp [intOf]; omega
    · obtain rfl : q = nb := by omega
      obtain ⟨fa, fc, hfv, hfc⟩ := own_slice HI.out.1
      subst hfv
      obtain ⟨fa', fc', hv', hfl, hfn⟩ := own_lies HI.out.1
      cases hv'
      clear hfn
      have hbr := HI.out.2
      have hKr := HL.out.2.2.1.below hbr
      have hF := hBl.trans (hbr.mono hBl.size)
      have hUse : ∀ b ∈ useB q h K bl, b ∈ bl ∧ b.l.length = k := fun b hb => by
        obtain ⟨j, hj, rfl⟩ := List.mem_map.1 hb
        obtain ⟨h1, h2, h3⟩ := mem_use.1 hj
        have hjb : j < bl.length := by rw [hKr.2.1]; exact h1
        have e : bl.getD j nilB = bl[j] := by simp [List.getD_eq_getElem?_getD, hjb]
        rw [e]
        refine ⟨List.getElem_mem hjb, ?_⟩
        rw [← hKr.l hjb]
        exact hKr.2.2.2.2.2.1.knw_len h3
      have hAll : AllIn wr (⟨da, dc, d⟩ :: useB q h K bl) := fun b hb => by
        rcases List.mem_cons.1 hb with rfl | hb
        · exact ⟨HL.out.2.2.2.1.below hbr (Nat.le_refl _), by show d.length ≤ _; rw [HL.out.2.2.2.2]; unfold maxLen; omega⟩
        · exact hKr.2.2.1 b (hUse b hb).1
      have hCode : addCode (⟨da, dc, d⟩ :: useB q h K bl) = 0 := by
        unfold addCode
        rw [if_pos (chk_all k1 k2 fun x hx => by
          obtain ⟨b, hb, rfl⟩ := List.mem_map.1 hx
          rcases List.mem_cons.1 hb with rfl | hb
          · exact HL.out.2.2.2.2
          · exact (hUse b hb).2), if_neg (by simp)]
      have hSum : sumBl (⟨da, dc, d⟩ :: useB q h K bl) = restL q k (h, d) K := by
        unfold sumBl
        rw [List.map_cons, ← rest_sum HL.out.2.2.2.2 hKr.2.2.2.2.2.1 (List.Perm.refl (useL q h K))]
        congr 2
        unfold useB
        rw [List.map_map]
        refine List.map_congr_left fun j hj => ?_
        obtain ⟨h1, h2, h3⟩ := mem_use.1 hj
        have hjb : j < bl.length := by rw [hKr.2.1]; exact h1
        have e : bl.getD j nilB = bl[j] := by simp [List.getD_eq_getElem?_getD, hjb]
        rw [hKr.l hjb]
        show (bl.getD j nilB).l = _
        rw [e]
      have hA := add_good fa fc (⟨da, dc, d⟩ :: useB q h K bl) wr (by simp only [List.length_cons, hub]; unfold maxLen; omega) hfl hAll hCode
      rw [hSum, restL_length] at hA
      clear hSum hCode hAll hUse hKr hbr hfl HI
      rw [List.length_cons, hub] at hA ⊢
      go_wp2_with fail
      refine hA.mono ?_
      rintro e w5 ⟨rfl, hrow, hb5⟩
      have hlr := row_lies hrow (restL_length q k (h, d) K)
      have hty : TyU w5 (some ⟨wr.heap.size, 0, none⟩) := fun g o e => by
        cases e
        obtain ⟨c, hc, _⟩ := hrow
        exact ⟨c, _, hc⟩
      replace hF := hF.trans (hb5.mono hF.size)
      clear hA hrow hb5
      go_wp2
      go_ret
      exact ⟨_, _, rfl, hlr, hty, hF⟩

end Go.Proofs.YtkiejflgphjfjacDoor
