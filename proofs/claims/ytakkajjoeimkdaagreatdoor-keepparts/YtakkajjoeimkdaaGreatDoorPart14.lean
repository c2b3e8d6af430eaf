import Derived.Test.YtakkajjoeimkdaaGreatDoorPart3
namespace Go.Proofs.YtakkajjoeimkdaaGreatDoor
open Go.RowKit
set_option linter.unusedVariables false
set_option linter.unusedSimpArgs false

def joinTo (n k : Nat) (ls : List (List UInt8)) (i : Nat) : List UInt8 := ((ls.take i).flatten ++ zeros (n - i * k)).take n

theorem take_flatten_length {k : Nat} {ls : List (List UInt8)} (h : ∀ b ∈ ls, b.length = k) {i : Nat} (hi : i ≤ ls.length) : (ls.take i).flatten.length = i * k := by
 rw [flatten_length_of (fun b hb => h b (List.mem_of_mem_take hb)), List.length_take, Nat.min_eq_left hi]

theorem joinTo_zero (n k : Nat) (ls : List (List UInt8)) : joinTo n k ls 0 = zeros n := by
 simp [joinTo, zeros]

theorem joinTo_length {n k : Nat} {ls : List (List UInt8)} (h : ∀ b ∈ ls, b.length = k) {i : Nat} (hi : i ≤ ls.length) : (joinTo n k ls i).length = n := by
 simp only [joinTo, List.length_take, List.length_append, take_flatten_length h hi, zeros, List.length_replicate]
 omega

theorem joinTo_all {n k nb : Nat} {ls : List (List UInt8)} (hl : ls.length = nb) (hn : n ≤ nb * k) : joinTo n k ls nb = ls.flatten.take n := by
 simp only [joinTo]
 rw [List.take_of_length_le (Nat.le_of_eq hl), show n - nb * k = 0 by omega]
 simp [zeros]

theorem joinTo_step {n k i : Nat} {ls : List (List UInt8)} (h : ∀ b ∈ ls, b.length = k) (hi : i < ls.length) (hik : i * k < n) :
  splice (joinTo n k ls i) (i * k) (ls[i].take (n - i * k)) = joinTo n k ls (i + 1) := by
 have hb := h ls[i] (by simp)
 have hf := take_flatten_length h (Nat.le_of_lt hi)
 have e1 : joinTo n k ls i = (ls.take i).flatten ++ zeros (n - i * k) := by
  unfold joinTo
  rw [List.take_of_length_le]
  simp only [List.length_append, hf, zeros, List.length_replicate]
  omega
 have e2 : joinTo n k ls (i + 1) = (ls.take i).flatten ++ (ls[i].take (n - i * k) ++ zeros (n - (i + 1) * k)) := by
  unfold joinTo
  rw [List.take_succ_eq_append_getElem hi, List.flatten_append, List.append_assoc, List.take_append, List.take_of_length_le (by omega), hf]
  congr 1
  simp only [List.flatten_cons, List.flatten_nil, List.append_nil]
  rw [List.take_append]
  congr 1
  rw [List.take_of_length_le]
  simp only [zeros, List.length_replicate, hb, Nat.add_mul]
  omega
 rw [e1, e2]
 unfold splice
 rw [List.take_left' hf]
 congr 2
 rw [List.drop_append, List.drop_of_length_le (by rw [hf]; omega), List.nil_append, hf]
 simp only [zeros, List.drop_replicate, List.length_take, hb, Nat.add_mul]
 congr 1
 omega

theorem bs_splice (l : List UInt8) (o : Nat) (m : List UInt8) : splice (bs l) o (bs m) = bs (splice l o m) := by
 simp [splice, bs]

theorem joinCode_chk {B K : Int} {ls : List (List UInt8)} (h : chkP B K ≠ 0) : joinCode B K ls = chkP B K := by simp [joinCode, h]

set_option maxHeartbeats 400000 in
theorem join_bad1 (B K : Int) (a : Option Addr) (cap : Nat) (bl : List Blk) (w : World) (hB : I64 B) (hK : I64 K) (hn : bl.length ≤ maxLen) (hbad : chkP B K ≠ 0 ∨ (bl.length : Int) ≠ nB B K) :
  Calls Tryz.prog 136 #[.agg #[.int .i64 B, .int .i64 K], .slice a bl.length cap] w fun e w' => e = .returned (.tuple #[.slice none 0 0, .int .i64 (joinCode B K (bl.map Blk.l))]) ∧ Below w.heap.size w w' := by
 unfold maxLen at hn
 by_cases hc : chkP B K = 0
 ·have hne : ((bl.length : Int) != nB B K) = true := by
   have := hbad.resolve_left (by simp [hc])
   simpa using this
  have HA : Hid (joinCode B K (bl.map Blk.l) = 8) := by
   show joinCode B K (bl.map Blk.l) = 8
   have : (bl.length : Int) ≠ nB B K := by simpa using hne
   simp [joinCode, hc, this]
  clear hbad
  go_enter Tryz.func136, Tryz.ntmps136
  go_wp2_with fail
  refine (cutCheck_any B K _ hB hK).mono ?_
  rintro e w1 ⟨rfl, hb⟩
  obtain ⟨x0, x1⟩ := (Boxed.mk w B K 32).below hb
  have hb := boxBelow hb
  rw [hc]
  go_wp2_with fail
  refine (cutBlocks_any B K _ hB hK).mono ?_
  rintro e w2 ⟨rfl, hb2⟩
  have hb := hb.trans (hb2.mono hb.size)
  go_wp2
  go_ret2
  exact ⟨ret2 rfl (congrArg (Value.int .i64) HA.out.symm), hb⟩
 ·have hc' : (chkP B K != 0) = true := by simpa using hc
  have HA : Hid (joinCode B K (bl.map Blk.l) = chkP B K) := joinCode_chk hc
  clear hc hbad
  go_enter Tryz.func136, Tryz.ntmps136
  go_wp2_with fail
  refine (cutCheck_any B K _ hB hK).mono ?_
  rintro e w1 ⟨rfl, hb⟩
  have hb := boxBelow hb
  go_wp2
  go_ret2
  exact ⟨ret2 rfl (congrArg (Value.int .i64) HA.out.symm), hb⟩

def lenTo (k : Nat) (bl : List Blk) (i : Nat) : Prop := ∀ j (h : j < bl.length), j < i → bl[j].l.length = k

theorem lenTo_all {k : Nat} {bl : List Blk} {i : Nat} (h : lenTo k bl i) (hi : bl.length ≤ i) : ∀ b ∈ bl.map Blk.l, b.length = k := by
 intro b hb
 obtain ⟨c, hc, rfl⟩ := List.mem_map.1 hb
 obtain ⟨j, hj, rfl⟩ := List.mem_iff_getElem.1 hc
 exact h j hj (by omega)

theorem lenTo_succ {k : Nat} {bl : List Blk} {i : Nat} (h : lenTo k bl i) (hi : i < bl.length) (e : bl[i].l.length = k) : lenTo k bl (i + 1) := by
 intro j hj hji
 by_cases ej : j = i
 ·subst ej; exact e
 ·exact h j hj (by omega)

theorem joinCode_len {B K : Int} {n k nb : Nat} (g : Good B K n k nb) {bl : List Blk} (hl : bl.length = nb) {i : Nat} (hi : i < bl.length) (hne : ¬ bl[i].l.length = k) : joinCode B K (bl.map Blk.l) = 4 := by
 have ha : (bl.map Blk.l).all (fun b => (b.length : Int) == K) = false := by
  rw [Bool.eq_false_iff]
  intro h
  rw [g.eK] at h
  exact hne (all_len_iff.1 h bl[i].l (List.mem_map.2 ⟨bl[i], by simp, rfl⟩))
 unfold joinCode
 rw [if_neg (by rw [chkP_good g]; simp), if_neg (by rw [g.eN]; simp [hl]), if_pos ha]

theorem drop_last {n k nb : Nat} {ls : List (List UInt8)} (h : ∀ b ∈ ls, b.length = k) (hl : ls.length = nb) (b1 : 1 ≤ nb) (lo : (nb - 1) * k < n) : ls.flatten.drop n = (ls[nb - 1]'(by omega)).drop (n - (nb - 1) * k) := by
 have hf := take_flatten_length h (show nb - 1 ≤ ls.length by omega)
 have e : ls.flatten = (ls.take (nb - 1)).flatten ++ ls[nb - 1]'(by omega) := by
  have h2 : ls = ls.take (nb - 1) ++ [ls[nb - 1]'(by omega)] := by
   rw [← List.take_succ_eq_append_getElem (by omega), List.take_of_length_le (by omega)]
  have h3 := congrArg List.flatten h2
  rw [List.flatten_append, List.flatten_cons, List.flatten_nil, List.append_nil] at h3
  exact h3
 rw [e, List.drop_append, List.drop_of_length_le (by rw [hf]; omega), List.nil_append, hf]

theorem joinCode_zero4 {B K : Int} {n k nb : Nat} (g : Good B K n k nb) {ls : List (List UInt8)} (hl : ls.length = nb) (ha : ∀ b ∈ ls, b.length = k) (hz : allZero (ls.flatten.drop n) = false) : joinCode B K ls = 4 := by
 have eB : B.toNat = n := by have := g.eB; omega
 unfold joinCode
 rw [if_neg (by rw [chkP_good g]; simp), if_neg (by rw [g.eN, hl]; simp), if_neg (by rw [g.eK, all_len_iff.2 ha]; simp), if_pos (by rw [eB]; exact hz)]

theorem noughts_q (a : Option Addr) (m cap : Nat) (l : List UInt8) (v : Bool) (w : World) (hm : l.length = m) (hv : allZero l = v) (hn : m ≤ maxLen) (ha : Lies w a (bs l)) :
  Calls Tryz.prog 164 #[.slice a m cap] w fun e w' => e = .returned (.bool v) ∧ w' = w := by
 subst hm hv
 exact (noughts_any a cap l w hn ha).mono fun e w' ⟨h1, h2⟩ => ⟨h1, h2.symm⟩

theorem Lies.drop {w : World} {b o : Nat} {l : List UInt8} (h : Lies w (.some ⟨b, o, none⟩) (bs l)) (r : Nat) : Lies w (.some ⟨b, o + r, none⟩) (bs (l.drop r)) := by
 intro k u hu
 have hu' : (bs l)[r + k]? = .some u := by
  simpa [bs, List.getElem?_drop] using hu
 exact ⟨b, o + r, rfl, by rw [Nat.add_assoc]; exact h.at hu'⟩

def JoinInv (w3 wr : World) (n k : Nat) (ls : List (List UInt8)) (m : Nat) : Prop :=
 wr.heap[w3.heap.size]? = some (.cells (bs (joinTo n k ls m)).toArray 5 (0, 0)) ∧ Below w3.heap.size w3 wr

theorem JoinInv.start (w3 : World) (n k : Nat) (ls : List (List UInt8)) : JoinInv w3 (w3.alloc (.cells (madeCells #[.int .u8 0] n) 5)) n k ls 0 := by
 refine ⟨?_, (Below.refl _ _).alloc (Nat.le_refl _) _⟩
 rw [heap_alloc_eq, if_pos rfl, joinTo_zero]
 congr 2
 apply Array.ext'
 rw [toList_madeCells_one]
 simp [bs, zeros]

theorem lies_take {w : World} {b o q : Nat} {l : List UInt8} {cs : List Value} (h : Lies w (some ⟨b, o, none⟩) (bs l)) (HCS : Hid (cs = bs (l.take q))) : ∀ j v, cs[j]? = some v → w.cell? ((⟨b, o, none⟩ : Addr).add j) = some v := by
 intro j v hj
 rw [HCS.out] at hj
 have hj' : (bs l)[j]? = some v := by
  simp only [bs, List.map_take, List.getElem?_take] at hj ⊢
  split at hj
  ·exact hj
  ·cases hj
 simpa [Addr.add_lit] using h.at hj'

theorem run_copy_spl {P : Program} (w : World) (dT sT ty elem : TypeId) (g o dLen dCap : Nat) (a : Addr) (sLen sCap : Nat) (cur cs : List Value) (t : TypeId)
  (hu : P.underlying dT = some (.slice elem)) (hs : (P.info? elem).map (·.size) = some 1)
  (hg : w.heap[g]? = some (.cells cur.toArray t (0, 0))) (hn : cs.length = Nat.min sLen dLen)
  (hsrc : ∀ j v, cs[j]? = some v → w.cell? (a.add j) = some v) (hfit : o + cs.length ≤ cur.length) (h1 : ∀ v ∈ cs, v.oneCell' = true) :
  (Builtin.copy_ #[dT, sT] ty #[.slice (some ⟨g, o, none⟩) dLen dCap, .slice (some a) sLen sCap]).run P w = .ok (.int .i64 (cs.length : Int)) (w.setRow g (splice cur o cs).toArray) := by
 rw [run_copy_row P w dT sT ty elem g o dLen dCap a sLen sCap cur.toArray t cs hu hs hg hn hsrc (by simpa using hfit) h1]
 simp [splice, goInt]

theorem join_next {w3 wr : World} {n k m p : Nat} {bl : List Blk} {cur cs : List Value} (HA : Hid (∀ b ∈ bl.map Blk.l, b.length = k)) (HCU : Hid (cur = bs (joinTo n k (bl.map Blk.l) m))) (hml : m < bl.length) (HCS : Hid (cs = bs (bl[m].l.take (n - p)))) (HP : Hid (p = m * k)) (hpn : p < n)
  (hg : wr.heap[w3.heap.size]? = some (.cells cur.toArray 5 (0, 0))) (hb : Below w3.heap.size w3 wr) : JoinInv w3 (wr.setRow w3.heap.size (splice cur p cs).toArray) n k (bl.map Blk.l) (m + 1) := by
 refine ⟨?_, below_setRow hb (Nat.le_refl _) _⟩
 rw [setRow_heap wr _ _ _ _ _ hg, HCU.out, HCS.out, bs_splice]
 have e := joinTo_step (n := n) HA.out (i := m) (by simpa using hml) (by rw [← HP.out]; exact hpn)
 simp only [List.getElem_map] at e
 rw [← e, HP.out]

set_option maxHeartbeats 2000000 in
theorem join_good (B K : Int) (n k nb : Nat) (a : Option Addr) (cap : Nat) (bl : List Blk) (w : World) (hg : Good B K n k nb) (hl : bl.length = nb) (ha : Lies w a (bl.map Blk.val)) (hall : AllIn w bl) (hcaps : Caps bl) :
  Calls Tryz.prog 136 #[.agg #[.int .i64 B, .int .i64 K], .slice a nb cap] w fun e w' => ∃ a', e = .returned (.tuple #[.slice a' (joinRes B K (bl.map Blk.l)).length (joinRes B K (bl.map Blk.l)).length, .int .i64 (joinCode B K (bl.map Blk.l))]) ∧
   Lies w' a' (bs (joinRes B K (bl.map Blk.l))) ∧ Below w.heap.size w w' := by
 have G : Hid (Good B K n k nb) := hg
 obtain ⟨rfl, rfl, n1, n2, k1, k2, eN, b1, b2, lo, hi⟩ := hg
 have hB : I64 n := ⟨by omega, by omega⟩
 have hK : I64 k := ⟨by omega, by omega⟩
 have HC : Hid (chkP n k = 0) := chkP_good G.out
 have HL : Hid (bl.length = nb) := hl
 have HN : Hid (nB n k = nb) := eN
 have hmk := run_make_row' (P := Tryz.prog) 35 5 (.int .u8 0) 1 Tryz.underlying35 infoU8 rfl .i64 .i64 n (by omega) (by omega)
 have hself : ((nb : Int) != (nb : Int)) = false := by simp
 obtain ⟨b1', o1', rfl⟩ := ha.some (k := 0) (by simp; omega)
 clear hl eN
 go_enter Tryz.func136, Tryz.ntmps136
 go_wp2_with fail
 refine (cutCheck_any n k _ hB hK).mono ?_
 rintro e w1 ⟨rfl, hb⟩
 obtain ⟨x0, x1⟩ := (Boxed.mk w n k 32).below hb
 have HX : Hid (Boxed w1 w.heap.size n k) := ⟨x0, x1⟩
 have hb := boxBelow hb
 rw [HC.out]
 go_wp2_with fail
 refine (cutBlocks_any n k _ hB hK).mono ?_
 rintro e w2 ⟨rfl, hb2⟩
 rw [HN.out]
 obtain ⟨x0, x1⟩ := HX.out.below hb2
 have hb := hb.trans (hb2.mono hb.size)
 clear hb2 HX
 go_wp2
 go_loop [25] (fun i => ∃ m : Nat, m ≤ nb ∧ i = .int .i64 m ∧ Hid (lenTo k bl m)) (fun i => nb - (intOf i).toNat)
 case atStart => exact ⟨0, Nat.zero_le _, rfl, fun j hj h => by omega⟩
 case round =>
  obtain ⟨m, hm, rfl, hlen⟩ := hrel
  by_cases hlt : m < nb
  ·have hml : m < bl.length := by rw [HL.out]; exact hlt
   have hc1 : w2.cell? ⟨b1', o1' + m, none⟩ = some (.slice bl[m].a bl[m].l.length bl[m].cap) := (ha.below hb (Nat.le_refl _)).at (by simp [hml, Blk.val])
   have hbb := (hall bl[m] (by simp)).2
   unfold maxLen at hbb
   cases hne : ((bl[m].l.length : Int) != (k : Int)) with
   | true =>
    have HJ : Hid (joinCode n k (bl.map Blk.l) = 4) := joinCode_len G.out HL.out hml (by simp at hne; omega)
    go_wp2
    go_ret2
    exact ⟨none, by simp [joinRes, HJ.out], by simp [joinRes, HJ.out, bs, Lies.nil], hb⟩
   | false =>
    have HE : Hid (bl[m].l.length = k) := by
     show bl[m].l.length = k
     simp at hne
     omega
    go_wp2
    go_round
    case rel => exact ⟨m + 1, by omega, by go_num, lenTo_succ hlen.out hml HE.out⟩
    case measure => simp [intOf]; omega
  ·have HA : Hid (∀ b ∈ bl.map Blk.l, b.length = k) := lenTo_all hlen.out (by rw [HL.out]; omega)
   clear hlen
   have hml : nb - 1 < bl.length := by rw [HL.out]; omega
   have hlk : bl[nb - 1].l.length = k := HA.out _ (List.mem_map.2 ⟨bl[nb - 1], by simp, rfl⟩)
   have hc1 : w2.cell? ⟨b1', o1' + (nb - 1), none⟩ = some (.slice bl[nb - 1].a k bl[nb - 1].cap) := (ha.below hb (Nat.le_refl _)).at (by simp [hml, Blk.val, hlk])
   have hla := (hall bl[nb - 1] (by simp)).1.below hb (Nat.le_refl _)
   have hcl := hcaps bl[nb - 1] (by simp)
   obtain ⟨lb, lof, hle⟩ := hla.some (k := 0) (by rw [bs_length, hlk]; omega)
   rw [hle] at hc1 hla
   obtain ⟨q, hq⟩ : ∃ q, q = (nb - 1) * k := ⟨_, rfl⟩
   obtain ⟨r, hr⟩ : ∃ r, r = n - q := ⟨_, rfl⟩
   have e1 : ((nb : Int) - 1).toNat = nb - 1 := by omega
   have e2 : ((nb : Int) - 1) * (k : Int) = (q : Int) := by
    rw [hq]
    have : ((nb : Int) - 1) = ((nb - 1 : Nat) : Int) := by omega
    rw [this]
    simp
   have hmul : nb * k = (nb - 1) * k + k := by
    have := Nat.add_mul (nb - 1) 1 k
    rw [Nat.one_mul] at this
    rw [← this]
    congr 1
    omega
   have f1 : q < n := by omega
   have f2 : r ≤ k := by omega
   have e3 : (n : Int) - (q : Int) = (r : Int) := by omega
   have HZ : Hid ((bl.map Blk.l).flatten.drop n = bl[nb - 1].l.drop r) := by
    have := drop_last HA.out (by simpa using HL.out) b1 lo
    show (bl.map Blk.l).flatten.drop n = bl[nb - 1].l.drop r
    rw [hr, hq]
    simpa using this
   have HLK : Hid (bl[nb - 1].l.length = k) := hlk
   rw [hlk] at hcl
   obtain ⟨lc, hlc⟩ : ∃ lc, lc = bl[nb - 1].cap := ⟨_, rfl⟩
   rw [← hlc] at hc1 hcl
   have HD : Hid ((bl[nb - 1].l.drop r).length = k - r) := by
    show (bl[nb - 1].l.drop r).length = k - r
    rw [List.length_drop, HLK.out]
   have hld := hla.drop r
   clear hle hlk hq hr hmul hlc hla
   cases hz : allZero (bl[nb - 1].l.drop r) with
   | false =>
    have HZF : Hid (allZero (bl[nb - 1].l.drop r) = false) := hz
    have hcr : ¬ lc = r := fun e => by
     rw [List.drop_eq_nil_of_le (by rw [HLK.out]; omega)] at hz
     simp [allZero] at hz
    clear hz
    go_wp2
    go_quiet ((go_at_call 164; exact Calls.quiet_of_same (noughts_q _ _ _ _ _ _ HD.out HZF.out (by unfold maxLen; omega) (hld.drewN _))))
    go_wp2
    go_ret2
    have HJ : joinCode n k (bl.map Blk.l) = 4 := joinCode_zero4 G.out (by simpa using HL.out) HA.out (by rw [HZ.out]; exact HZF.out)
    exact ⟨none, by simp [joinRes, HJ], by simp [joinRes, HJ, bs, Lies.nil], hb.trans (bdn _ _ _)⟩
   | true =>
    have HZT : Hid (allZero (bl[nb - 1].l.drop r) = true) := hz
    have HJ : Hid (joinCode n k (bl.map Blk.l) = 0 ∧ joinRes n k (bl.map Blk.l) = (bl.map Blk.l).flatten.take n) := joinCode_good G.out (by simpa using HL.out) HA.out (by rw [HZ.out]; exact hz)
    clear hz
    by_cases hcr : lc = r
    all_goals
     go_wp2
     go_quiet ((go_at_call 164; first | exact Calls.quiet_of_same (noughts_q _ _ _ _ _ _ HD.out HZT.out (by unfold maxLen; omega) (hld.drewN _)) | exact Calls.quiet_of_same (noughts_q _ _ _ [] true _ (by simp; omega) rfl (by unfold maxLen; omega) (Lies.nil _ _))))
     have hx : Boxed (w2.drewN nq) w.heap.size n k := ⟨x0, x1⟩
     have hb := hb.trans (bdn w2 nq w.heap.size)
     clear x0 x1 hc1 HD hld e1 e2 e3 f1 f2 hcr HZ HLK HZT hcl
     generalize w2.drewN nq = w3 at *
     have HX : Hid (Boxed w3 w.heap.size n k) := hx
     obtain ⟨x0, x1⟩ := hx
     clear hm hlt
     have hI0 := JoinInv.start w3 n k (bl.map Blk.l)
     go_wp2
     clear x0 x1
     go_loopw [57] (fun i wr => ∃ m : Nat, m ≤ nb ∧ i = .int .i64 m ∧ Hid (JoinInv w3 wr n k (bl.map Blk.l) m)) (fun i _ => nb - (intOf i).toNat)
     case atStart => exact ⟨0, Nat.zero_le _, rfl, hI0⟩
     case round =>
      clear hI0
      obtain ⟨m, hm, rfl, hI⟩ := hrel
      by_cases hlt : m < nb
      ·have hml : m < bl.length := by rw [HL.out]; exact hlt
       have HLK : Hid (bl[m].l.length = k) := HA.out _ (List.mem_map.2 ⟨bl[m], by simp, rfl⟩)
       have hbw := hb.trans (hI.out.2.mono hb.size)
       have hc1 : wr.cell? ⟨b1', o1' + m, none⟩ = some (.slice bl[m].a k bl[m].cap) := (ha.below hbw (Nat.le_refl _)).at (by simp [hml, Blk.val, HLK.out])
       have x1 := (HX.out.below hI.out.2).2
       have hla := (hall bl[m] (by simp)).1.below hbw (Nat.le_refl _)
       obtain ⟨lb, lof, hle⟩ := hla.some (k := 0) (by rw [bs_length, HLK.out]; omega)
       rw [hle] at hc1 hla
       obtain ⟨p, hp⟩ : ∃ p, p = m * k := ⟨_, rfl⟩
       have hpi : (m : Int) * (k : Int) = (p : Int) := by rw [hp]; simp
       have hpn : p < n := by
        have := Nat.mul_le_mul_right k (show m ≤ nb - 1 by omega)
        omega
       have HP : Hid (p = m * k) := hp
       have hw3 : ¬ n = p := by omega
       obtain ⟨cur, hcur⟩ : ∃ cur, cur = bs (joinTo n k (bl.map Blk.l) m) := ⟨_, rfl⟩
       obtain ⟨cs, hcs⟩ : ∃ cs, cs = bs (bl[m].l.take (n - p)) := ⟨_, rfl⟩
       have HCU : Hid (cur = bs (joinTo n k (bl.map Blk.l) m)) := hcur
       have HCS : Hid (cs = bs (bl[m].l.take (n - p))) := hcs
       have S0 : Hid (wr.heap[w3.heap.size]? = some (.cells cur.toArray 5 (0, 0))) := by
        have := hI.out.1
        rw [← hcur] at this
        exact this
       have S1 : Hid (cs.length = Nat.min k (n - p)) := by
        show cs.length = Nat.min k (n - p)
        rw [hcs, bs_length, List.length_take, HLK.out]
        exact Nat.min_comm _ _
       have S2 : Hid (∀ j v, cs[j]? = some v → wr.cell? ((⟨lb, lof, none⟩ : Addr).add j) = some v) := lies_take hla HCS
       have S3 : Hid (p + cs.length ≤ cur.length) := by
        show p + cs.length ≤ cur.length
        rw [S1.out, hcur, bs_length, joinTo_length HA.out (by simp; omega)]
        have : Nat.min k (n - p) ≤ n - p := Nat.min_le_right _ _
        omega
       have S4 : Hid (∀ v ∈ cs, v.oneCell' = true) := bs_one HCS
       have S5 : Hid (Below w3.heap.size w3 wr) := hI.out.2
       clear hp hcur hcs hla hle hI hbw
       have hrun := run_copy_spl wr 35 36 3 5 w3.heap.size p (n - p) (n - p) ⟨lb, lof, none⟩ k bl[m].cap cur cs 5 Tryz.underlying35 sizeU8 S0.out S1.out S2.out S3.out S4.out
       have HI : Hid (JoinInv w3 (wr.setRow w3.heap.size (splice cur p cs).toArray) n k (bl.map Blk.l) (m + 1)) := join_next HA HCU hml HCS HP hpn S0.out S5.out
       clear S0 S1 S2 S3 S4 S5
       go_wp2
       clear hrun
       generalize wr.setRow w3.heap.size (splice cur p cs).toArray = w4 at *
       go_roundw
       case rel => exact ⟨m + 1, by omega, by go_num, HI⟩
       case measure => simp [intOf]; omega
      ·have hmn : m = nb := by omega
       have HMN : Hid (m = nb) := hmn
       clear hmn
       go_wp2
       go_ret2
       have h := hI.out
       rw [HMN.out] at h
       obtain ⟨h1, h2⟩ := h
       have hll : (joinRes n k (bl.map Blk.l)).length = n := by
        rw [HJ.out.2, ← joinTo_all (by simpa using HL.out) hi, joinTo_length HA.out (by simp [HL.out])]
       rw [hll, HJ.out.1, HJ.out.2, ← joinTo_all (by simpa using HL.out) hi]
       refine ⟨some ⟨w3.heap.size, 0, none⟩, rfl, ?_, hb.trans (h2.mono hb.size)⟩
       have := Lies.of_block h1
       simpa using this

theorem join_any (B K : Int) (a : Option Addr) (cap : Nat) (bl : List Blk) (w : World) (hB : I64 B) (hK : I64 K) (hn : bl.length ≤ maxLen) (ha : Lies w a (bl.map Blk.val)) (hall : AllIn w bl) (hcaps : Caps bl) :
  Calls Tryz.prog 136 #[.agg #[.int .i64 B, .int .i64 K], .slice a bl.length cap] w fun e w' => ∃ a', e = .returned (.tuple #[.slice a' (joinRes B K (bl.map Blk.l)).length (joinRes B K (bl.map Blk.l)).length, .int .i64 (joinCode B K (bl.map Blk.l))]) ∧
   Lies w' a' (bs (joinRes B K (bl.map Blk.l))) ∧ Below w.heap.size w w' := by
 by_cases hbad : chkP B K ≠ 0 ∨ (bl.length : Int) ≠ nB B K
 ·have hne : joinCode B K (bl.map Blk.l) ≠ 0 := by
   by_cases hc : chkP B K = 0
   ·have := hbad.resolve_left (by simp [hc])
    simp [joinCode, hc, this]
   ·rw [joinCode_chk hc]; exact hc
  refine (join_bad1 B K a cap bl w hB hK hn hbad).mono ?_
  rintro e w' ⟨rfl, hb⟩
  have er : joinRes B K (bl.map Blk.l) = [] := if_neg hne
  rw [er]
  exact ⟨none, rfl, Lies.nil _ _, hb⟩
 ·have h1 : chkP B K = 0 := Classical.byContradiction fun h => hbad (.inl h)
  have h2 : (bl.length : Int) = nB B K := Classical.byContradiction fun h => hbad (.inr h)
  obtain ⟨n, k, nb, g⟩ := good_of h1
  have hl : bl.length = nb := by have := g.eN; omega
  rw [hl]
  exact join_good B K n k nb a cap bl w g hl ha hall hcaps

end Go.Proofs.YtakkajjoeimkdaaGreatDoor
