/-
  The reference's Picked: its contract.
-/
import Derived.Test.YtdhholcbmeoagabDoorPick2
import Derived.Test.YtdhholcbmeoagabDoorHas
import Derived.Test.YtdhholcbmeoagabDoorShelf
import Derived.Sort.OwnSortedInts
import Derived.Deep.CutBlock
namespace Go.Proofs.YtdhholcbmeoagabDoor
open Go.RowKit
set_option linter.unusedVariables false
set_option linter.unusedSimpArgs false

/-- numbers as Go's ints -/
def ints (l : List Nat) : List Int := l.map fun k : Nat => (k : Int)

theorem ints_length (l : List Nat) : (ints l).length = l.length := by simp [ints]

theorem mem_ints {l : List Nat} {k : Nat} : (k : Int) ∈ ints l ↔ k ∈ l := by
  unfold ints
  rw [List.mem_map]
  constructor
  · rintro ⟨j, hj, e⟩
    obtain rfl : j = k := by omega
    exact hj
  · exact fun h => ⟨k, h, rfl⟩

theorem infoI : (Tryd.prog.info? 3).map (fun i => (i.zero, i.size, i.bytes)) = some (some (.int .i64 0), 1, 8) := by kernel_rfl

theorem refPicked_bad (id b : Int) (w : World) (h : OutOf id b) :
    Calls Tryd.prog 8 #[.int .i64 id, .int .i64 b] w fun e w' => e = .returned (.tuple #[.slice none 0 0, .int .i64 3]) ∧ w = w' := by
  by_cases h1 : 0 ≤ id ∧ id ≤ 9999
  · have h2 : ¬ (1 ≤ b ∧ b ≤ 24) := by unfold OutOf at h; omega
    have H1 := Shut.mk (decide_eq_true h1)
    have H2 := Shut.mk (decide_eq_false h2)
    clear h1 h2 h
    go_enter Tryd.func8, Tryd.ntmps8
    go_wp2_with fail
    refine (in_any id 0 9999 _).mono ?_
    rintro e w1 ⟨rfl, rfl⟩
    rw [H1.out]
    go_wp2_with fail
    refine (in_any b 1 24 _).mono ?_
    rintro e w1 ⟨rfl, rfl⟩
    rw [H2.out]
    go_wp2
    go_ret2
    exact ⟨rfl, rfl⟩
  · have H1 := Shut.mk (decide_eq_false h1)
    clear h1 h
    go_enter Tryd.func8, Tryd.ntmps8
    go_wp2_with fail
    refine (in_any id 0 9999 _).mono ?_
    rintro e w1 ⟨rfl, rfl⟩
    rw [H1.out]
    go_wp2
    go_ret2
    exact ⟨rfl, rfl⟩

theorem refPicked_low (i b : Nat) (w : World) (hi : i ≤ 9999) (h1 : 1 ≤ b) (hb : b ≤ 24) (hlt : i < b) :
    Calls Tryd.prog 8 #[.int .i64 i, .int .i64 b] w fun e w' => ∃ (a : Option Addr) (cap : Nat) (L : List Int), e = .returned (.tuple #[.slice a L.length cap, .int .i64 0]) ∧ Lies w' a (L.map (Value.int .i64)) ∧ L.Perm (ints (chosen b i)) ∧ Below w.heap.size w w' := by
  have H1 : Shut (decide ((0 : Int) ≤ (i : Int) ∧ (i : Int) ≤ 9999) = true) := ⟨decide_eq_true (by omega)⟩
  have H2 : Shut (decide ((1 : Int) ≤ (b : Int) ∧ (b : Int) ≤ 24) = true) := ⟨decide_eq_true (by omega)⟩
  go_enter Tryd.func8, Tryd.ntmps8
  go_wp2_with fail
  refine (in_any i 0 9999 _).mono ?_
  rintro e w1 ⟨rfl, rfl⟩
  rw [H1.out]
  go_wp2_with fail
  refine (in_any b 1 24 _).mono ?_
  rintro e w1 ⟨rfl, rfl⟩
  rw [H2.out]
  go_wp2
  go_ret2
  refine ⟨_, 1, [(i : Int)], rfl, Lies.alloc_new _ _ _, ?_, (Below.refl _ _).alloc (Nat.le_refl _) _⟩
  rw [chosen_low hlt]
  exact List.Perm.refl _

/-- the list's state after n steps -/
def LInv (w wr : World) (v : Value) (b x0 n : Nat) : Prop := wr.ownsRow w.heap.size 3 1 v (coll b x0 n).length ((ints (coll b x0 n)).map (Value.int .i64)) ∧ Below w.heap.size w wr

/-- how many a slice has -/
def lenOf : Value → Nat
  | .slice _ n _ => n
  | _ => 0

/-- slices.Sort of ints that lie in memory of the call's own -/
theorem sort_own {w : World} {B : Nat} {v : Value} {zs : List Int} {n : Nat} (hn : n = zs.length) (h : w.ownsRow B 3 1 v n (zs.map (Value.int .i64))) (hp : 0 < n) (hbig : n < 4611686018427387904) :
    Calls Tryd.prog 24 #[v] w fun e w' => e = .returned (.tuple #[]) ∧ ∃ ts : List Int, ts.Perm zs ∧ w'.ownsRow B 3 1 v n (ts.map (Value.int .i64)) ∧ w.grownBy w' v.ownBlock := by
  subst hn
  rcases h.2 with ⟨rfl, h0⟩ | ⟨g, cap, cur, rfl, hb, hg, hnc, hcm, hcs, htake⟩
  · omega
  · have hlt : g < w.heap.size := (Array.getElem?_eq_some_iff.1 hg).1
    refine (Tryd.slices_Sort_int g 0 cap zs w (holds_of_blockI hg (by simpa using htake)) hlt hbig).mono ?_
    rintro e w' ⟨rfl, nn, os, rfl⟩
    refine ⟨rfl, zs.mergeSort fun x y => decide (x ≤ y), List.mergeSort_perm _ _, ?_, ?_⟩
    · exact ownsRow_sortedI (by simp) hb hg hnc hcm hcs
    · exact grownBy_sortedI _

theorem LInv.new {w wr w4 : World} {v v' : Value} {b x0 n k : Nat} (hB : w.heap.size ≤ wr.heap.size) (hb : Below w.heap.size w wr)
    (ho : wr.ownsRow w.heap.size 3 1 v (coll b x0 n).length ((ints (coll b x0 n)).map (Value.int .i64))) (o : Obj)
    (ho' : w4.ownsRow w.heap.size 3 1 v' ((coll b x0 n).length + 1) ((ints (coll b x0 n)).map (Value.int .i64) ++ [.int .i64 k])) (hg : (wr.alloc o).grownBy w4 v.ownBlock)
    (hc : coll b x0 (n + 1) = coll b x0 n ++ [k]) : LInv w w4 v' b x0 (n + 1) := by
  unfold LInv
  rw [hc]
  refine ⟨?_, ?_⟩
  · simpa [ints] using ho'
  · refine (hb.alloc hB o).grown hg (by simp; omega) ?_
    intro g hg'
    exact (ho.lt g hg').1

set_option maxHeartbeats 1000000 in
theorem refPicked_high (i b : Nat) (w : World) (hi : i ≤ 9999) (h1 : 1 ≤ b) (hb : b ≤ 24) (hge : b ≤ i) :
    Calls Tryd.prog 8 #[.int .i64 i, .int .i64 b] w fun e w' => ∃ (a : Option Addr) (cap : Nat) (L : List Int), e = .returned (.tuple #[.slice a L.length cap, .int .i64 0]) ∧ Lies w' a (L.map (Value.int .i64)) ∧ L.Perm (ints (chosen b i)) ∧ Below w.heap.size w w' := by
  have H1 : Shut (decide ((0 : Int) ≤ (i : Int) ∧ (i : Int) ≤ 9999) = true) := ⟨decide_eq_true (by omega)⟩
  have H2 : Shut (decide ((1 : Int) ≤ (b : Int) ∧ (b : Int) ≤ 24) = true) := ⟨decide_eq_true (by omega)⟩
  have HX0 := nx_small i
  have HM1 : Shut (many b (nx i) ≤ b) := ⟨many_le h1 (nx i)⟩
  have HM2 : Shut (1 ≤ many b (nx i)) := ⟨many_pos h1 (nx i)⟩
  have HC : Shut (∀ n, (coll b (nx i) n).length = many b (nx i) → chosen b i = coll b (nx i) n) := ⟨fun n hn => chosen_high (by omega) hn⟩
  have HMA : Shut (∀ k, k < 5 → (∀ j, j < k → lim.getD j 0 ≤ nx i) → nx i < lim.getD k 0 → many b (nx i) = min (k + 1) b) := ⟨fun k hk hlo hx => many_at hk hlo hx⟩
  have HME : Shut ((∀ j, j < 5 → lim.getD j 0 ≤ nx i) → many b (nx i) = max (b / 2) 1) := ⟨many_end⟩
  have hnx : ((i : Int) * 1109 + 12345) % 65536 = ((nx i : Nat) : Int) := by simp [nx]
  go_enter Tryd.func8, Tryd.ntmps8
  go_wp2_with fail
  refine (in_any i 0 9999 _).mono ?_
  rintro e w1 ⟨rfl, rfl⟩
  rw [H1.out]
  go_wp2_with fail
  refine (in_any b 1 24 _).mono ?_
  rintro e w1 ⟨rfl, rfl⟩
  rw [H2.out]
  clear H1 H2
  generalize nx i = x0 at *
  go_upto_region 6 with fail
  go_cut [6, 7] from 12 (fun s6 s7 wc => s6 = .int .i64 x0 ∧ s7 = .int .i64 (max (b / 2) 1 : Nat) ∧ w = wc)
  case first =>
    go_wp2
    all_goals go_meet
    all_goals exact ⟨congrArg (Value.int .i64) hnx, congrArg (Value.int .i64) (by omega), rfl⟩
  case rest =>
    obtain ⟨rfl, rfl, rfl⟩ := hcut
    clear hnx
    go_upto_block 0 with fail
    have hlw := Lies.alloc_new w #[.int .i64 8192, .int .i64 40960, .int .i64 51882, .int .i64 57344, .int .i64 60621] 3
    have hbw : Below w.heap.size w (w.alloc (.cells #[.int .i64 8192, .int .i64 40960, .int .i64 51882, .int .i64 57344, .int .i64 60621] 3)) := (Below.refl _ _).alloc (Nat.le_refl _) _
    obtain ⟨w2, hw2⟩ : ∃ w2, w.alloc (.cells #[.int .i64 8192, .int .i64 40960, .int .i64 51882, .int .i64 57344, .int .i64 60621] 3) = w2 := ⟨_, rfl⟩
    rw [hw2] at hlw hbw ⊢
    clear hw2
    go_cut [7] from 12 (fun s7 wd => s7 = .int .i64 (many b x0 : Nat) ∧ w2 = wd)
    case first =>
      go_wp2_with fail
      go_loopw [34, 7] (fun i m wr => ∃ k : Nat, k ≤ 5 ∧ i = .int .i64 k ∧ m = .int .i64 (max (b / 2) 1 : Nat) ∧ wr = w2 ∧ Shut (∀ j, j < k → lim.getD j 0 ≤ x0)) (fun i _ _ => 5 - (intOf i).toNat)
      case atStart => exact ⟨0, Nat.zero_le _, rfl, rfl, rfl, ⟨fun j hj => by omega⟩⟩
      case round =>
        obtain ⟨k, hk, rfl, rfl, rfl, HL⟩ := hrel
        by_cases hlt : k < 5
        · obtain ⟨L, hLk⟩ : ∃ L : Int, L = lim.getD k 0 := ⟨_, rfl⟩
          have c1 : wr.cell? ⟨w.heap.size, k, none⟩ = some (.int .i64 L) := by
            have h5 : k = 0 ∨ k = 1 ∨ k = 2 ∨ k = 3 ∨ k = 4 := by omega
            have h := hlw.at (k := k) (u := .int .i64 L) (by rw [hLk]; rcases h5 with rfl | rfl | rfl | rfl | rfl <;> rfl)
            simpa using h
          by_cases hx2 : x0 < lim.getD k 0
          · have HM : Shut (many b x0 = min (k + 1) b) := ⟨HMA.out k hlt HL.out hx2⟩
            have hx3 : (x0 : Int) < L := by omega
            have hk5 : (k : Int) < 5 := by omega
            clear hLk hx2 hlw HL
            go_wp2
            all_goals go_meet
            all_goals exact ⟨congrArg (Value.int .i64) (by rw [HM.out]; omega), rfl⟩
          · have HN : Shut (∀ j, j < k + 1 → lim.getD j 0 ≤ x0) := ⟨fun j hj => by
              by_cases e : j = k
              · subst e; omega
              · exact HL.out j (by omega)⟩
            have hx3 : L ≤ (x0 : Int) := by omega
            have hk5 : (k : Int) < 5 := by omega
            clear hLk hx2 hlw HL
            go_wp2
            exact ⟨⟨k + 1, by omega, by go_num, rfl, trivial, HN⟩, by simp [intOf]; omega⟩
        · obtain rfl : k = 5 := by omega
          have HM : Shut (many b x0 = max (b / 2) 1) := ⟨HME.out HL.out⟩
          clear HL
          go_wp2
          go_meet
          exact ⟨congrArg (Value.int .i64) (by rw [HM.out]), rfl⟩
    case rest =>
      obtain ⟨rfl, rfl⟩ := hcut
      clear hlw
      generalize many b x0 = m at *
      have H0 : Shut (LInv w w2 (.slice none 0 0) b x0 0) := ⟨World.ownsRow_nil _ _ _ _, hbw⟩
      obtain ⟨i0, hin, hz0, hz1, hz2⟩ := info_parts infoI
      clear HMA HME hbw
      go_wp2
      go_loopw [6, 10] (fun x v wr => ∃ n : Nat, (coll b x0 n).length ≤ m ∧ x = .int .i64 (it n x0 : Nat) ∧ Shut (LInv w wr v b x0 n)) (fun x v _ => toGo b x0 m (m - lenOf v) (intOf x).toNat)
      case atStart => exact ⟨0, Nat.zero_le _, rfl, H0⟩
      case round =>
        clear H0
        obtain ⟨n, hn, rfl, hI⟩ := hrel
        obtain ⟨p, q, rfl, hpq⟩ := own_slice hI.out.1
        have hla : Lies wr p ((ints (coll b x0 n)).map (Value.int .i64)) := by
          obtain ⟨a', c', e', h', _⟩ := own_lies hI.out.1
          cases e'
          exact h'
        by_cases hlt : (coll b x0 n).length < m
        · have HN : Shut ((coll b x0 n).length < m) := ⟨hlt⟩
          have hmb : m ≤ 24 := by have := HM1.out; omega
          have HS := it_small HX0 n
          clear hn
          generalize hxe : it n x0 = x at *
          have HXE : Shut (it n x0 = x) := ⟨hxe⟩
          have hC : ∀ k : Nat, Calls Tryd.prog 10 #[.slice p (coll b x0 n).length q, .int .i64 k] wr fun e w' => e = .returned (.bool (decide (k ∈ coll b x0 n))) ∧ wr = w' := by
            intro k
            have h := contains_any p q (ints (coll b x0 n)) k wr (by rw [ints_length]; unfold maxLen; omega) hla
            rw [ints_length] at h
            refine h.mono ?_
            rintro e w1 ⟨rfl, rfl⟩
            exact ⟨retB (by simp only [mem_ints]), rfl⟩
          obtain ⟨y, hy⟩ : ∃ y, nx x = y := ⟨_, rfl⟩
          have hq1 : ((x : Int) * 1109 + 12345) % 65536 = (y : Int) := by rw [← hy]; simp [nx]
          have HY : Shut (nx x = y) := ⟨hy⟩
          have hyb : y < 1000000 := by rw [← hy]; have := nx_lt x; omega
          have hxb : x < 1000000 := by have := HS.lt; omega
          clear hy hxe
          obtain ⟨k, hk⟩ : ∃ k, y / 7 % b = k := ⟨_, rfl⟩
          have hq2 : (y : Int) / 7 % (b : Int) = (k : Int) := by rw [← hk]; simp
          have hkb : k < b := by rw [← hk]; exact Nat.mod_lt _ (by omega)
          have HK : Shut (y / 7 % b = k) := ⟨hk⟩
          have hC := hC k
          clear hk hla
          go_wp2_with fail
          refine hC.mono ?_
          rintro e w3 ⟨rfl, rfl⟩
          clear hC
          simp only [hq1, hq2]
          have hown := hI.out.1
          have hbe := hI.out.2
          have hsz := hbe.size
          by_cases hin' : k ∈ coll b x0 n
          · rw [decide_eq_true hin']
            have HIN : Shut (k ∈ coll b x0 n) := ⟨hin'⟩
            clear hin' hown hbe hsz
            go_wp2
            obtain ⟨s1, s2, s3⟩ := step_old hb HM1 HN HXE ⟨rfl⟩ HY HK HIN
            refine ⟨⟨n + 1, by rw [s1]; exact Nat.le_of_lt HN.out, by rw [s2], ⟨?_⟩⟩, s3⟩
            have h := hI.out
            unfold LInv at h ⊢
            rw [s1]
            exact h
          · rw [decide_eq_false hin']
            have HIN : Shut (¬ k ∈ coll b x0 n) := ⟨hin'⟩
            clear hin'
            go_wp2_with (first | (at_builtin; refine wpList_append_own _ rfl _ _ 26 rfl w.heap.size 3 i0 (.int .i64 0) 1 8 Tryd.underlying26 hin hz0 hz1 hz2 rfl (by decide) _ _ _ rfl (hown.alloc _) ⟨wr.heap.size, 0, none⟩ 1 1 [.int .i64 k] rfl rfl ?c1 ?c2 ?c3 ?c4 ?c5 ?_) | go_in)
            case c1 =>
              intro j u hj
              match j, hj with
              | 0, hj => simp at hj; subst hj; simp [Addr.add]
            case c2 => intro u hu; simp at hu; subst hu; rfl
            case c3 => unfold maxLen; omega
            case c4 => omega
            case c5 => simp; omega
            intro v' w4 hown' hgrow _
            have R := LInv.new hsz hbe hown _ hown' hgrow (step_new HN HXE ⟨rfl⟩ HY HK HIN).1
            obtain ⟨p2, q2, rfl, hpq2⟩ := own_slice hown'
            clear hown' hgrow hown hbe
            go_wp2
            obtain ⟨s1, s2, s3⟩ := step_new HN HXE ⟨rfl⟩ HY HK HIN
            have hN := HN.out
            refine ⟨⟨n + 1, by rw [s1]; simp; omega, by rw [s2], ⟨R⟩⟩, ?_⟩
            show toGo b x0 m (m - ((coll b x0 n).length + 1)) _ < _
            rw [show m - ((coll b x0 n).length + 1) = m - (coll b x0 n).length - 1 by omega]
            exact s3
        · have HE : Shut ((coll b x0 n).length = m) := ⟨by omega⟩
          have hwm : ¬ ((coll b x0 n).length : Int) < (m : Int) := by omega
          clear hn hlt hla
          generalize it n x0 = x at *
          go_wp2_with fail
          have hm2 := HM2.out
          have hm1 := HM1.out
          have hE := HE.out
          refine (sort_own (ints_length _).symm hI.out.1 (by omega) (by omega)).mono ?_
          rintro e w4 ⟨rfl, ts, hperm, hown, hgr⟩
          have HR : Shut ((∃ (a : Option Addr) (cap : Nat) (L : List Int), (Value.slice p (coll b x0 n).length q) = .slice a L.length cap ∧ Lies w4 a (L.map (Value.int .i64)) ∧ L.Perm (ints (chosen b i))) ∧ Below w.heap.size w w4) := by
            obtain ⟨a', c', e', h', hl'⟩ := own_lies hown
            refine ⟨⟨a', c', ts, ?_, h', by rw [HC.out n hE]; exact hperm⟩, ?_⟩
            · rw [e']
              simpa using hl'
            · exact hI.out.2.grown hgr hI.out.2.size fun g hg' => (hI.out.1.lt g hg').1
          clear hperm hown hgr hI HC HE hm1 hm2 hE
          go_wp2
          go_ret2
          obtain ⟨⟨a, cap, L, h1', h2', h3'⟩, h4'⟩ := HR.out
          exact ⟨a, cap, L, ret2 h1' rfl, h2', h3', h4'⟩

/-- the reference's Picked -/
theorem refPicked_any (i b : Nat) (w : World) (hi : i ≤ 9999) (h1 : 1 ≤ b) (hb : b ≤ 24) :
    Calls Tryd.prog 8 #[.int .i64 i, .int .i64 b] w fun e w' => ∃ (a : Option Addr) (cap : Nat) (L : List Int), e = .returned (.tuple #[.slice a L.length cap, .int .i64 0]) ∧ Lies w' a (L.map (Value.int .i64)) ∧ L.Perm (ints (chosen b i)) ∧ Below w.heap.size w w' := by
  by_cases h : i < b
  · exact refPicked_low i b w hi h1 hb h
  · exact refPicked_high i b w hi h1 hb (by omega)

end Go.Proofs.YtdhholcbmeoagabDoor
