/-
  Proved: for every list of byte slices and every two byte slices the statement SumSays returns true and leaves its arguments as they were; no condition.
-/
import Derived.Test.YtpibeoieknoabaaOpen
import Derived.Test.YtpibeoieknoabaaSumSaysW
namespace Go.Proofs.Ytpibeoieknoabaa.sumSays
open Go.ChangeShapes Go.WideShapes Go.ChangeAt Go.RowKit
set_option linter.unusedVariables false
set_option linter.unusedSimpArgs false

theorem own : ownKnob Try.prog.godebug = none := by kernel_rfl
theorem laidOut : laidOutB Try.prog = true := by kernel_rfl

theorem bytesOf_elem : Try.prog.bytesOf 28 = 24 := by kernel_rfl

theorem W_sumSays (w : World) (a0 : Option Addr) (c0 : Nat) (bl : List Blk) (h0 : Lies w a0 (bl.map Blk.val)) (hall : AllIn w bl) (hn : bl.length * 24 ≤ 140737488355328) (a1 : Option Addr) (c1 : Nat) (xs : List UInt8) (h1 : Lies w a1 (bs xs)) (hx : xs.length ≤ maxLen)
    (a2 : Option Addr) (c2 : Nat) (ys : List UInt8) (h2 : Lies w a2 (bs ys)) (hy : ys.length ≤ maxLen) :
    Calls Try.prog 4 #[.slice a0 bl.length c0, .slice a1 xs.length c1, .slice a2 ys.length c2] w fun e w' => e = .returned (.bool true) ∧ Below w.heap.size w w' :=
  sumSays_walk a0 a1 a2 c0 c1 c2 bl xs ys w hn hx hy h0 hall h1 h2

set_option maxRecDepth 100000 in
theorem lifted (os : Os) (started : os.Started) (H : Type) (enc : TypeId × Value → H) :
    ReturnsInHanded {} Try.checked os 4 .any (Rows.sumSaysSpec.pre6 enc Try.prog Try.f4 Rows.sumSaysRow.domain false) (Rows.sumSaysSpec.post enc Try.prog Try.f4 false true false false) := by
  refine returnsInHanded_of_change_sized (C := Try.checked) own started (by kernel_rfl) Try.func4
    (ChangeSpec.witness6 (enc := enc) (C := Try.checked) false ⟨#[], #[.slice none 0 0, .slice none 0 0, .slice none 0 0], []⟩ 8 (by kernel_rfl) (by kernel_rfl) (by kernel_rfl) (by kernel_rfl)) ?_
  intro W base args ds gs before hval0 hW hcnd hsz0 _
  have hval : ∀ (j : Nat) t v, Try.f4.params[j]? = some t → args[j]? = some v → Value.okWide Try.prog W .any base t v := hval0
  have hsz : (DataW.weightsEach Try.prog (Try.f4.params.toList ++ Rows.sumSaysSpec.plain.varTypes Try.prog) (ds ++ gs)).all (· ≤ reachBytes) = true := hsz0
  have hW' := hW
  obtain ⟨p, q, hA0, hV, rfl, hfz, hnd⟩ := hW
  have hA : DataW.TrodAll enc Try.prog W 0 (fun _ => true) true Try.f4.params.toList args.toList ds p := hA0
  rw [Try.params4] at hA hval hsz
  obtain ⟨v0, vs0, d0, ds0, p0, q0, hargs, rfl, rfl, h0, r0⟩ := trodAll_cons hA
  obtain ⟨v1, vs1, d1, ds1, p1, q1, rfl, rfl, rfl, h1, r1⟩ := trodAll_cons r0
  obtain ⟨v2, vs2, d2, ds2, p2, q2, rfl, rfl, rfl, h2, r2⟩ := trodAll_cons r1
  obtain ⟨rfl, rfl, rfl⟩ := trodAll_nil r2
  obtain rfl : args = #[v0, v1, v2] := by cases args; simp_all
  obtain ⟨rfl, rfl⟩ := trodVars_none hV
  obtain ⟨s0, len0, cap0, rfl⟩ := okWide_slice Try.underlying27 (hval 0 27 v0 rfl rfl)
  have k0 := h0
  have lt0 : ∀ x ∈ p0, x.block < W.heap.size := by obtain ⟨m, hm⟩ := k0; exact DataW.trod_lt m _ _ _ hm
  obtain ⟨f0, hf0⟩ := h0
  obtain ⟨a0, c0, l0, e0, hl0, ha0, hm0, hd0⟩ := open_blocks Try.underlying27 Try.underlying28 Try.underlying5 (by kernel_rfl) (by kernel_rfl) hf0
  have hb0 : l0.length * 24 ≤ 140737488355328 := by
    rcases hd0 with ⟨_, rfl⟩ | ⟨el, sp, rfl, hlen⟩
    · simp
    · have := sized_slice hsz (j := 0) (t := 27) (e := 28) rfl rfl Try.underlying27
      rw [bytesOf_elem] at this
      have h2 := reachBytes_lt
      omega
  rw [e0] at k0 hW' ⊢
  obtain ⟨s1, len1, cap1, rfl⟩ := okWide_slice Try.underlying28 (hval 1 28 v1 rfl rfl)
  have k1 := h1
  have lt1 : ∀ x ∈ p1, x.block < W.heap.size := by obtain ⟨m, hm⟩ := k1; exact DataW.trod_lt m _ _ _ hm
  obtain ⟨f1, hf1⟩ := h1
  obtain ⟨a1, c1, l1, e1, hl1, hm1⟩ := open_bytes Try.underlying28 Try.underlying5 (by kernel_rfl) hf1
  rw [e1] at k1 hW' ⊢
  obtain ⟨s2, len2, cap2, rfl⟩ := okWide_slice Try.underlying28 (hval 2 28 v2 rfl rfl)
  have k2 := h2
  have lt2 : ∀ x ∈ p2, x.block < W.heap.size := by obtain ⟨m, hm⟩ := k2; exact DataW.trod_lt m _ _ _ hm
  obtain ⟨f2, hf2⟩ := h2
  obtain ⟨a2, c2, l2, e2, hl2, hm2⟩ := open_bytes Try.underlying28 Try.underlying5 (by kernel_rfl) hf2
  rw [e2] at k2 hW' ⊢
  clear hA0 hval0 hsz0 hsz hval
  refine (W_sumSays W a0 c0 l0 hl0 ha0 hb0 a1 c1 l1 hl1 hm1 a2 c2 l2 hl2 hm2).mono fun e W' ⟨he, bel⟩ => ?_
  subst he
  exact ⟨_, rfl, _, _, _, [], _, [], hW', trodAll_mk1 (shut_bool Try.underlying4 _), (trodAll_cons_mk (Below.trod laidOut (by kernel_rfl) (of_decide_eq_true (by kernel_rfl)) k0 bel lt0) (trodAll_cons_mk (Below.trod laidOut (by kernel_rfl) (of_decide_eq_true (by kernel_rfl)) k1 bel lt1) (trodAll_cons_mk (Below.trod laidOut (by kernel_rfl) (of_decide_eq_true (by kernel_rfl)) k2 bel lt2) trodAll_mk0))), rfl, bel.frame _, fun h => by cases h⟩

theorem over : Rows.sumSaysRow.holds Try.pinned (OpenSpec.ofChange Rows.sumSaysSpec) :=
  OpenClaim.holds_of_wide 4 Try.f4 rfl rfl rfl rfl rfl rfl rfl ⟨rfl, rfl, rfl, rfl, rfl⟩ rfl rfl rfl rfl rfl (by kernel_rfl) Try.func4 (by kernel_rfl)
    (of_decide_eq_true (by kernel_rfl)) (by unfold Func.isWrapper; first | (rw [if_pos (by decide +kernel)]; kernel_rfl) | (rw [if_neg (by decide +kernel)]; exact ⟨rfl, rfl⟩))
    (fun os started H enc _ => lifted os started H enc)

theorem proved : Rows.SumSaysSaid := over
#print axioms proved
end Go.Proofs.Ytpibeoieknoabaa.sumSays

