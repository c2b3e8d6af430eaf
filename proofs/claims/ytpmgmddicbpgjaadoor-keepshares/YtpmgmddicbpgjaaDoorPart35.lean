import Derived.Test.YtpmgmddicbpgjaaDoorPart34
import Derived.Test.YtpmgmddicbpgjaaDoorPart25
import Derived.Test.YtpmgmddicbpgjaaDoorPart15
import Derived.Test.YtpmgmddicbpgjaaDoorTie
import Derived.ProofKit
import Derived.LaidMore
import Derived.OpenShut
import Derived.Stop.Joined
import Derived.Lib.LaidTab
/-
  A place that came in, opened.
-/
namespace Go.Proofs.YtpmgmddicbpgjaaDoor
open Go.ChangeShapes Go.WideShapes Go.ChangeAt Go.RowKit
set_option linter.unusedVariables false
set_option linter.unusedSimpArgs false

theorem flatK_length {α : Type} {K : Nat} (cl : α → List Value) (hcl : ∀ a, (cl a).length = K) (l : List α) : (l.flatMap cl).length = K * l.length := by
  induction l with
  | nil => simp
  | cons r l ih => rw [List.flatMap_cons, List.length_append, ih, hcl, List.length_cons, Nat.mul_succ]; omega

theorem flatK_at {α : Type} {K : Nat} (cl : α → List Value) (hcl : ∀ a, (cl a).length = K) : ∀ (l : List α) (i j : Nat) (y : α) (v : Value), l[i]? = some y → (cl y)[j]? = some v → (l.flatMap cl)[K * i + j]? = some v
  | [], i, j, y, v, h, _ => by simp at h
  | r :: l, 0, j, y, v, h, hv => by
    simp at h
    subst h
    rw [List.flatMap_cons, Nat.mul_zero, Nat.zero_add, List.getElem?_append_left (List.getElem?_eq_some_iff.1 hv).1]
    exact hv
  | r :: l, i + 1, j, y, v, h, hv => by
    have hl := hcl r
    rw [List.flatMap_cons, List.getElem?_append_right (by rw [hl, Nat.mul_succ]; omega), hl, show K * (i + 1) + j - K = K * i + j by rw [Nat.mul_succ]; omega]
    exact flatK_at cl hcl l i j y v (by simpa using h) hv

section
variable {H : Type} {enc : TypeId × Value → H} {w : World} {held : Bool}

/-- a list of structs of some cells that came in -/
theorem trodBool {n : Nat} {c : Value} {y : DataW H × List MemPlace} (h : DataW.trod enc Tryd.prog w 0 (fun _ => true) held n 4 [c] = some y) : ∃ b : Bool, c = .bool b := by
  obtain ⟨b, e, _⟩ := DataW.trod_bool Tryd.underlying4 h
  simp at e
  exact ⟨b, e⟩

theorem open_rows {α : Type} [Inhabited α] {t e : TypeId} {K : Nat} (hK : 0 < K) (ht : Tryd.prog.underlying t = some (.slice e)) (hC : Tryd.prog.cellsOf e = K) (cl : α → List Value) (hcl : ∀ a, (cl a).length = K) (G : α → Prop)
    (hone : ∀ (n : Nat) (cs : List Value) (y : DataW H × List MemPlace), cs.length = K → DataW.trod enc Tryd.prog w 0 (fun _ => true) held n e cs = some y → ∃ m, cs = cl m ∧ G m)
    {fuel : Nat} {v : Value} {x : DataW H × List MemPlace} (h : DataW.trod enc Tryd.prog w 0 (fun _ => true) held fuel t [v] = some x) :
    ∃ (a : Option Addr) (cap : Nat) (l : List α), v = .slice a l.length cap ∧ Lies w a (l.flatMap cl) ∧ (∀ y ∈ l, G y) ∧ l.length ≤ maxLen ∧ l.length ≤ cap := by
  rcases Go.Deep.open_slice ht h with ⟨hcs, hx⟩ | ⟨a, len, cap, m, n, D, Pl, hcs, _, hl, hm, hmm, hx, hcell⟩
  · simp at hcs
    subst hcs
    exact ⟨none, 0, [], rfl, Lies.nil _ _, (fun r hr => by cases hr), by simp, by simp⟩
  · simp at hcs hmm
    subst hcs hmm
    rw [hC] at hcell
    have hb' : ∀ i, i < m → ∃ y : α, (∀ j u, (cl y)[j]? = some u → w.cell? ((a.add (i * K)).add j) = some u) ∧ G y := fun i hi => by
      obtain ⟨cs', e1, e2⟩ := hcell i hi
      obtain ⟨_, hlen, hc⟩ := World.cells?_some e1
      obtain ⟨y, ey, h1⟩ := hone _ _ _ hlen e2
      refine ⟨y, ?_, h1⟩
      rw [← ey]
      intro j u hj
      have hlt := (List.getElem?_eq_some_iff.1 hj).1
      rw [hc j (by omega)]
      exact hj
    obtain ⟨B, hB⟩ := Go.Deep.choose_lt hb'
    refine ⟨some a, m, (List.range len).map B, by simp, ?_, ?_, by simp; omega, by simp; omega⟩
    · intro k u hu
      have hk : k < K * len := by
        obtain ⟨hk, _⟩ := List.getElem?_eq_some_iff.1 hu
        rw [flatK_length cl hcl] at hk
        simpa using hk
      have hkl : k / K < len := (Nat.div_lt_iff_lt_mul hK).2 (by rw [Nat.mul_comm]; exact hk)
      have hrow : ((List.range len).map B)[k / K]? = some (B (k / K)) := by simp [hkl]
      obtain ⟨c, hc⟩ : ∃ c, (cl (B (k / K)))[k % K]? = some c := ⟨_, List.getElem?_eq_getElem (by rw [hcl]; exact Nat.mod_lt _ hK)⟩
      have h1 := flatK_at cl hcl _ (k / K) (k % K) _ c hrow hc
      rw [Nat.div_add_mod, hu] at h1
      obtain rfl := Option.some.inj h1
      have h2 := (hB (k / K) (Nat.lt_of_lt_of_le hkl (by omega))).1 _ _ hc
      obtain ⟨c0, hc0⟩ : ∃ c, (cl (B 0))[0]? = some c := ⟨_, List.getElem?_eq_getElem (by rw [hcl]; exact hK)⟩
      have h0 := (hB 0 (Nat.lt_of_le_of_lt (Nat.zero_le _) (Nat.lt_of_lt_of_le hkl (by omega)))).1 0 _ hc0
      rw [Go.Deep.add_add] at h2 h0
      rw [show k / K * K + k % K = k by rw [Nat.mul_comm]; exact Nat.div_add_mod k K] at h2
      exact lies_addr (by simpa using h0) h2
    · intro r hr
      obtain ⟨i, hi, rfl⟩ := List.mem_map.1 hr
      exact (hB i (by simp at hi; omega)).2

theorem cTk2 : Tryd.prog.cellsOf 87 = 2 := by kernel_rfl
theorem cKept16 : Tryd.prog.cellsOf 46 = 16 := by kernel_rfl
theorem cPlace4 : Tryd.prog.cellsOf 25 = 4 := by kernel_rfl
theorem cSyms1 : Tryd.prog.cellsOf 43 = 1 := by kernel_rfl
theorem cTks1 : Tryd.prog.cellsOf 44 = 1 := by kernel_rfl
theorem cKepts1 : Tryd.prog.cellsOf 23 = 1 := by kernel_rfl
theorem cBool1 : Tryd.prog.cellsOf 4 = 1 := by kernel_rfl

theorem open_syms2 {fuel : Nat} {v : Value} {x : DataW H × List MemPlace} (h : DataW.trod enc Tryd.prog w 0 (fun _ => true) held fuel 43 [v] = some x) :
    ∃ (a : Option Addr) (cap : Nat) (l : List MSym), v = .slice a l.length cap ∧ Lies w a (symCells l) ∧ (∀ y ∈ l, SymIn w y ∧ I64 y.id) ∧ l.length ≤ maxLen ∧ l.length ≤ cap := by
  have : Inhabited MSym := ⟨⟨0, none, 0, []⟩⟩
  refine open_rows (K := 2) (by decide) Tryd.underlying43 cSym2 (fun y : MSym => [.int .i64 y.id, y.dv]) (fun _ => rfl) (fun y => SymIn w y ∧ I64 y.id) (fun n cs y hlen hf => ?_) h
  match cs, hlen with
  | [c0, c1], _ =>
    obtain ⟨ss, n6, _, _, _, hl6, hg6⟩ := DataW.trod_struct Tryd.underlying38 hf
    match ss, hl6 with
    | [s0, s1], _ =>
      have b0 := hg6 0 _ rfl
      have b1 := hg6 1 _ rfl
      simp [cInt1, cBlk1] at b0 b1
      obtain ⟨id, rfl, iid⟩ := one_int b0
      obtain ⟨da, dc, dl, rfl, h1, h2, _, _⟩ := open_bytes2 Tryd.underlying36 Tryd.underlying5 cU81 b1
      exact ⟨⟨id, da, dc, dl⟩, rfl, ⟨h1, h2⟩, iid⟩

theorem open_tks {fuel : Nat} {v : Value} {x : DataW H × List MemPlace} (h : DataW.trod enc Tryd.prog w 0 (fun _ => true) held fuel 44 [v] = some x) :
    ∃ (a : Option Addr) (cap : Nat) (l : List (Int × Int)), v = .slice a l.length cap ∧ Lies w a (tkCells l) ∧ (∀ y ∈ l, I64 y.1 ∧ I64 y.2) ∧ l.length ≤ maxLen ∧ l.length ≤ cap := by
  refine open_rows (K := 2) (by decide) Tryd.underlying44 cTk2 (fun y : Int × Int => [.int .i64 y.1, .int .i64 y.2]) (fun _ => rfl) (fun y => I64 y.1 ∧ I64 y.2) (fun n cs y hlen hf => ?_) h
  match cs, hlen with
  | [c0, c1], _ =>
    obtain ⟨ss, n6, _, _, _, hl6, hg6⟩ := DataW.trod_struct Tryd.underlying87 hf
    match ss, hl6 with
    | [s0, s1], _ =>
      have b0 := hg6 0 _ rfl
      have b1 := hg6 1 _ rfl
      simp [cInt1] at b0 b1
      obtain ⟨a, rfl, ia⟩ := one_int b0
      obtain ⟨b, rfl, ib⟩ := one_int b1
      exact ⟨(a, b), rfl, ia, ib⟩

set_option maxRecDepth 8000 in
theorem trod_kp {fuel : Nat} {c0 c1 c2 c3 c4 c5 c6 c7 c8 c9 c10 c11 c12 c13 c14 c15 : Value} {y : DataW H × List MemPlace} (hf : DataW.trod enc Tryd.prog w 0 (fun _ => true) held fuel 46 [c0, c1, c2, c3, c4, c5, c6, c7, c8, c9, c10, c11, c12, c13, c14, c15] = some y) :
    ∃ m : MKp, [c0, c1, c2, c3, c4, c5, c6, c7, c8, c9, c10, c11, c12, c13, c14, c15] = m.cells ∧ KpGood w m := by
  obtain ⟨xs, n, _, _, _, hlen, hg⟩ := DataW.trod_struct Tryd.underlying46 hf
  match xs, hlen with
  | [y0, y1, y2, y3, y4, y5, y6, y7, y8, y9, y10], _ =>
    have g0 := hg 0 _ rfl
    have g1 := hg 1 _ rfl
    have g2 := hg 2 _ rfl
    have g3 := hg 3 _ rfl
    have g4 := hg 4 _ rfl
    have g5 := hg 5 _ rfl
    have g6 := hg 6 _ rfl
    have g7 := hg 7 _ rfl
    have g8 := hg 8 _ rfl
    have g9 := hg 9 _ rfl
    have g10 := hg 10 _ rfl
    simp [cInt1, cHead6, cByt1, cSyms1, cTks1, cBool1] at g0 g1 g2 g3 g4 g5 g6 g7 g8 g9 g10
    obtain ⟨ow, rfl⟩ := trodBool g1
    obtain ⟨ca, cc, cl, rfl, h1, h2, h3, _⟩ := open_bytes2 Tryd.underlying35 Tryd.underlying5 cU81 g2
    obtain ⟨ya, yc, yl, rfl, s1, s2, s3, s4⟩ := open_syms2 g3
    obtain ⟨sh, rfl, ish⟩ := one_int g4
    obtain ⟨gv, rfl, igv⟩ := one_int g5
    obtain ⟨tw, rfl, itw⟩ := one_int g6
    obtain ⟨tr, rfl, itr⟩ := one_int g7
    obtain ⟨ta, tc, tl, rfl, t1, t2, t3, t4⟩ := open_tks g8
    obtain ⟨dl, rfl⟩ := trodBool g9
    obtain ⟨pg, rfl⟩ := trodBool g10
    obtain ⟨hs, n4, _, _, _, hl4, hg4⟩ := DataW.trod_struct Tryd.underlying34 g0
    match hs, hl4 with
    | [z0, z1, z2, z3, z4], _ =>
      have e0 := hg4 0 _ rfl
      have e1 := hg4 1 _ rfl
      have e2 := hg4 2 _ rfl
      have e3 := hg4 3 _ rfl
      have e4 := hg4 4 _ rfl
      simp [cInt1, cPlan2] at e0 e1 e2 e3 e4
      obtain ⟨F, rfl, iF⟩ := one_int e0
      obtain ⟨Q, rfl, iQ⟩ := one_int e1
      obtain ⟨T, rfl, iT⟩ := one_int e2
      obtain ⟨L, rfl, iL⟩ := one_int e3
      obtain ⟨ps, n5, _, _, _, hl5, hg5⟩ := DataW.trod_struct Tryd.underlying32 e4
      match ps, hl5 with
      | [u0, u1], _ =>
        have a0 := hg5 0 _ rfl
        have a1 := hg5 1 _ rfl
        simp [cInt1] at a0 a1
        obtain ⟨B, rfl, iB⟩ := one_int a0
        obtain ⟨K, rfl, iK⟩ := one_int a1
        refine ⟨⟨⟨⟨F, Q, T, L, B, K⟩, ow, cl, yl.map MSym.says, sh, gv, tw, tr, tl, dl, pg⟩, ca, cc, ya, yc, yl, ta, tc⟩, rfl, ⟨h1, s1, fun y hy => (s2 y hy).1, rfl, t1⟩, ⟨h2, s3, t3, h3, s4, t4⟩, ⟨iF, iQ, iT, iL, iB, iK⟩, ish, igv, itw, itr, t2, fun y hy => ?_⟩
        obtain ⟨z, hz, rfl⟩ := List.mem_map.1 hy
        exact (s2 z hz).2

theorem open_kps {fuel : Nat} {v : Value} {x : DataW H × List MemPlace} (h : DataW.trod enc Tryd.prog w 0 (fun _ => true) held fuel 23 [v] = some x) :
    ∃ (a : Option Addr) (cap : Nat) (l : List MKp), v = .slice a l.length cap ∧ Lies w a (kpCells l) ∧ (∀ y ∈ l, KpGood w y) ∧ l.length ≤ maxLen ∧ l.length ≤ cap := by
  have : Inhabited MKp := ⟨⟨kp0 ⟨0, 0, 0, 0, 0, 0⟩, none, 0, none, 0, [], none, 0⟩⟩
  refine open_rows (K := 16) (by decide) Tryd.underlying23 cKept16 MKp.cells (fun _ => rfl) (fun y => KpGood w y) (fun n cs y hlen hf => ?_) h
  match cs, hlen with
  | [c0, c1, c2, c3, c4, c5, c6, c7, c8, c9, c10, c11, c12, c13, c14, c15], _ => exact trod_kp hf

theorem array4 {α : Type} {cs : Array α} (h : cs.size = 4) : ∃ c0 c1 c2 c3, cs = #[c0, c1, c2, c3] := by
  obtain ⟨l⟩ := cs
  match l, h with
  | [c0, c1, c2, c3], _ => exact ⟨c0, c1, c2, c3, rfl⟩

set_option maxRecDepth 8000 in
theorem open_place {r : Reach} {b0 : Nat} {v : Value} {d : DataW H} {p : List MemPlace} (hv : Value.okWide Tryd.prog w r b0 25 v) (h : DataW.Trod enc Tryd.prog w 0 (fun _ => true) held 25 v d p) :
    ∃ (me tm sq : Int) (a : Option Addr) (cap : Nat) (l : List MKp), v = .agg #[.int .i64 me, .slice a l.length cap, .int .i64 tm, .int .i64 sq] ∧ Lies w a (kpCells l) ∧ (∀ y ∈ l, KpGood w y) ∧ l.length ≤ maxLen ∧ l.length ≤ cap ∧ I64 me ∧ I64 tm ∧ I64 sq := by
  obtain ⟨cs, rfl, hsz⟩ := okWide_struct Tryd.underlying25 hv
  obtain ⟨c0, c1, c2, c3, rfl⟩ := array4 (hsz.trans cPlace4)
  obtain ⟨fuel, hf⟩ := h
  obtain ⟨hs, n4, _, _, _, hl4, hg4⟩ := DataW.trod_struct Tryd.underlying25 hf
  match hs, hl4 with
  | [z0, z1, z2, z3], _ =>
    have e0 := hg4 0 _ rfl
    have e1 := hg4 1 _ rfl
    have e2 := hg4 2 _ rfl
    have e3 := hg4 3 _ rfl
    simp [Value.cells, cInt1, cKepts1] at e0 e1 e2 e3
    obtain ⟨me, rfl, i0⟩ := one_int e0
    obtain ⟨a, cap, l, rfl, h1, h2, h3, h4⟩ := open_kps e1
    obtain ⟨tm, rfl, i2⟩ := one_int e2
    obtain ⟨sq, rfl, i3⟩ := one_int e3
    exact ⟨me, tm, sq, a, cap, l, rfl, h1, h2, h3, h4, i0, i2, i3⟩

end
end Go.Proofs.YtpmgmddicbpgjaaDoor

/-
  What the rows' condition on the listed variable gives the walks, and that the heap of the door's own run meets it.
-/
namespace Go.Proofs.YtpmgmddicbpgjaaDoor
open Go.ChangeShapes Go.WideShapes Go.ChangeAt Go.RowKit
set_option linter.unusedVariables false

theorem own : ownKnob Tryd.prog.godebug = none := by kernel_rfl
theorem gLimits : Tryd.prog.globalNamed "bottlepost/pick.limits" = some 0 := by kernel_rfl
theorem tLimits : (Tryd.prog.globals[0]?).map (·.type) = some 138 := by kernel_rfl
theorem cInt : Tryd.prog.cellsOf 3 = 1 := by kernel_rfl
theorem cArr : Tryd.prog.cellsOf 138 = 5 := by kernel_rfl

/-- what the rows list -/
def listed : List (String × DataW Unit) := [("bottlepost/pick.limits", Rows.laid_bottlepost_pick_limits)]

/-- The door's own heap meets the condition. -/
theorem door_met (os : Os) (args : Array Value) : laidMetH Tryd.prog listed ((World.doorLaid Tryd.prog 400 os).forCall (fun _ _ => 0) ⟨#[], args, []⟩).memory :=
  laidMetH_of_parts3 (fuel := 8) (laidMet_of_run' 8 (by kernel_rfl) (by kernel_rfl)) (by kernel_rfl) (by kernel_rfl)

/-- What the condition gives the walks. -/
theorem laid_of {W : World} (h : laidMetH Tryd.prog listed W) : Laid W := by
  rw [MakeChecks.laidMetH_plain _ _ _ (by kernel_rfl)] at h
  have hT := Lib.tabIs_of_head (k := .i64) (zs := [8192, 40960, 51882, 57344, 60621]) gLimits tLimits Tryd.underlying138 Tryd.underlying3 cInt cArr h
  refine Lies.mk fun k hk => ?_
  have hk5 : k < 5 := hk
  have := hT.cell gLimits k hk5
  rw [Nat.zero_add, this]
  match k, hk5 with
  | 0, _ => rfl
  | 1, _ => rfl
  | 2, _ => rfl
  | 3, _ => rfl
  | 4, _ => rfl

end Go.Proofs.YtpmgmddicbpgjaaDoor
