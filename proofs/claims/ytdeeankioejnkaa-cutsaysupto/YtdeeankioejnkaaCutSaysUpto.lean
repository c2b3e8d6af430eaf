/-
  Proved: for every plan, every byte slice and every list of byte slices, of bulk at most 1048576 together, the statement CutSays returns true and leaves its arguments as they were; the condition: that bulk (the second form).
-/
import Derived.Test.YtdeeankioejnkaaBulk
import Derived.Test.YtdeeankioejnkaaCutSaysW
import Derived.Deep.CondSized
namespace Go.Proofs.Ytdeeankioejnkaa.cutSays
open Go.ChangeShapes Go.WideShapes Go.ChangeAt Go.RowKit
set_option linter.unusedVariables false
set_option linter.unusedSimpArgs false

theorem own : ownKnob Try.prog.godebug = none := by kernel_rfl
theorem laidOut : laidOutB Try.prog = true := by kernel_rfl

theorem bytesOf_elem : Try.prog.bytesOf 28 = 24 := by kernel_rfl

theorem W_cutSays (w : World) (B K : Int) (hB : I64 B) (hK : I64 K) (a : Option Addr) (cap : Nat) (c : List UInt8) (ha : Lies w a (bs c)) (hn : c.length ≤ maxLen) (hcap : c.length ≤ cap)
    (a0 : Option Addr) (cap0 : Nat) (bl : List Blk) (h0 : Lies w a0 (bl.map Blk.val)) (hall : AllIn w bl) (hbn : bl.length * 24 ≤ 140737488355328) (hcaps : Caps bl) (htot : ((bl.map Blk.l).flatten).length ≤ 1048576) :
    Calls Try.prog 6 #[.agg #[.int .i64 B, .int .i64 K], .slice a c.length cap, .slice a0 bl.length cap0] w fun e w' => e = .returned (.bool true) ∧ Below w.heap.size w w' :=
  cutSays_walk B K a a0 cap cap0 c bl w hB hK hn hcap ha hbn h0 hall hcaps htot

set_option maxRecDepth 100000 in
theorem lifted (os : Os) (started : os.Started) (H : Type) (enc : TypeId × Value → H) (F : Stop.Interp) :
    ReturnsInHanded {} Try.checked os 6 .any ((Rows.OpenSpec.upto Rows.cutSaysSpec).pre6 enc Try.prog Try.f6 Rows.cutSaysUptoRow.domain false) (((Rows.OpenSpec.upto Rows.cutSaysSpec).at F).post enc Try.prog Try.f6 false true false false) := by
  refine returnsInHanded_of_cond_sized (C := Try.checked) (s := Rows.OpenSpec.upto Rows.cutSaysSpec) (k := Rows.uptoSmall) rfl own started (by kernel_rfl) Try.func6
    (OpenSpec.witness (enc := enc) (C := Try.checked) (s := Rows.OpenSpec.upto Rows.cutSaysSpec) (k := Rows.uptoSmall) rfl false ⟨#[], #[.agg #[.int .i64 0, .int .i64 0], .slice none 0 0, .slice none 0 0], []⟩ 8 (by kernel_rfl) (by kernel_rfl) (by kernel_rfl)
      (x := ([.agg [.lit (.int .i64 0), .lit (.int .i64 0)], .nil, .nil], [], [])) (by kernel_rfl) rfl (by kernel_rfl)) ?_
  intro W base args ds gs before hval0 hW hcnd hk hsz0 _
  have hval : ∀ (j : Nat) t v, Try.f6.params[j]? = some t → args[j]? = some v → Value.okWide Try.prog W .any base t v := hval0
  have hsz : (DataW.weightsEach Try.prog (Try.f6.params.toList ++ Rows.cutSaysSpec.plain.varTypes Try.prog) (ds ++ gs)).all (· ≤ reachBytes) = true := hsz0
  have hW' := hW
  obtain ⟨p, q, hA0, hV, rfl, hfz, hnd⟩ := hW
  have hA : DataW.TrodAll enc Try.prog W 0 (fun _ => true) true Try.f6.params.toList args.toList ds p := hA0
  rw [Try.params6] at hA hval hsz
  obtain ⟨v0, vs0, d0, ds0, p0, q0, hargs, rfl, rfl, h0, r0⟩ := trodAll_cons hA
  obtain ⟨v1, vs1, d1, ds1, p1, q1, rfl, rfl, rfl, h1, r1⟩ := trodAll_cons r0
  obtain ⟨v2, vs2, d2, ds2, p2, q2, rfl, rfl, rfl, h2, r2⟩ := trodAll_cons r1
  obtain ⟨rfl, rfl, rfl⟩ := trodAll_nil r2
  obtain rfl : args = #[v0, v1, v2] := by cases args; simp_all
  obtain ⟨rfl, rfl⟩ := trodVars_none hV
  have k0 := h0
  have lt0 : ∀ x ∈ p0, x.block < W.heap.size := by obtain ⟨m, hm⟩ := k0; exact DataW.trod_lt m _ _ _ hm
  obtain ⟨B0, K0, e0, hB0, hK0⟩ := open_plan Try.underlying45 (by kernel_rfl) (by kernel_rfl) Try.underlying3 Try.underlying3 (hval 0 45 v0 rfl rfl) h0
  rw [e0] at k0 hW' ⊢
  obtain ⟨s1, len1, cap1, rfl⟩ := okWide_slice Try.underlying28 (hval 1 28 v1 rfl rfl)
  have k1 := h1
  have lt1 : ∀ x ∈ p1, x.block < W.heap.size := by obtain ⟨m, hm⟩ := k1; exact DataW.trod_lt m _ _ _ hm
  obtain ⟨f1, hf1⟩ := h1
  obtain ⟨a1, c1, l1, e1, hl1, hm1, hc1, hdl1⟩ := open_bytes2 Try.underlying28 Try.underlying5 (by kernel_rfl) hf1
  rw [e1] at k1 hW' ⊢
  obtain ⟨s2, len2, cap2, rfl⟩ := okWide_slice Try.underlying27 (hval 2 27 v2 rfl rfl)
  have k2 := h2
  have lt2 : ∀ x ∈ p2, x.block < W.heap.size := by obtain ⟨m, hm⟩ := k2; exact DataW.trod_lt m _ _ _ hm
  obtain ⟨f2, hf2⟩ := h2
  obtain ⟨a2, c2, l2, e2, hl2, ha2, hm2, hcp2, hd2⟩ := open_blocks2 Try.underlying27 Try.underlying28 Try.underlying5 (by kernel_rfl) (by kernel_rfl) hf2
  have hb2 : l2.length * 24 ≤ 140737488355328 := by
    rcases hd2 with ⟨_, rfl⟩ | ⟨el, sp, rfl, hlen⟩
    · simp
    · have := sized_slice hsz (j := 2) (t := 27) (e := 28) rfl rfl Try.underlying27
      have hlen := congrArg List.length hlen
      simp only [List.length_map] at hlen
      rw [bytesOf_elem] at this
      have h2 := reachBytes_lt
      omega
  have htot : ((l2.map Blk.l).flatten).length ≤ 1048576 := Nat.le_trans (bulk_blocks hd2) (Nat.le_trans (bulk_part (by simp)) (bulk_bound hk))
  rw [e2] at k2 hW' ⊢
  clear hA0 hval0 hsz0 hsz hval
  refine (W_cutSays W B0 K0 hB0 hK0 a1 c1 l1 hl1 hm1 hc1 a2 c2 l2 hl2 ha2 hb2 hcp2 htot).mono fun e W' ⟨he, bel⟩ => ?_
  subst he
  exact ⟨_, rfl, _, _, _, [], _, [], hW', trodAll_mk1 (shut_bool Try.underlying4 _), (trodAll_cons_mk (Below.trod laidOut (by kernel_rfl) (of_decide_eq_true (by kernel_rfl)) k0 bel lt0) (trodAll_cons_mk (Below.trod laidOut (by kernel_rfl) (of_decide_eq_true (by kernel_rfl)) k1 bel lt1) (trodAll_cons_mk (Below.trod laidOut (by kernel_rfl) (of_decide_eq_true (by kernel_rfl)) k2 bel lt2) trodAll_mk0))), rfl, bel.frame _, fun h => by cases h⟩

theorem over : Rows.cutSaysUptoRow.holds Try.pinned (Rows.OpenSpec.upto Rows.cutSaysSpec) :=
  OpenClaim.holds_of_cond 6 Try.f6 rfl rfl rfl rfl rfl rfl rfl ⟨rfl, rfl, rfl, rfl, rfl⟩ rfl rfl rfl rfl rfl (by kernel_rfl) Try.func6 (by kernel_rfl)
    (of_decide_eq_true (by kernel_rfl)) (by unfold Func.isWrapper; first | (rw [if_pos (by decide +kernel)]; kernel_rfl) | (rw [if_neg (by decide +kernel)]; exact ⟨rfl, rfl⟩))
    (fun os started H enc _ F => lifted os started H enc F)

theorem proved : Rows.CutSaysUptoSaid := over
#print axioms proved
end Go.Proofs.Ytdeeankioejnkaa.cutSays

