/-
  slices.Clone at bytes that are there: its contract.
-/
import Derived.Test.YtdhholcbmeoagabDoorSum2
import Derived.Lib.SliceRun
namespace Go.Proofs.YtdhholcbmeoagabDoor
open Go.RowKit
set_option linter.unusedVariables false
set_option linter.unusedSimpArgs false

theorem clone_any (b o cap : Nat) (xs : List UInt8) (w : World) (hn : xs.length ≤ 1048576) (ha : Lies w (some ⟨b, o, none⟩) (bs xs)) :
    Calls Tryd.prog 18 #[.slice (some ⟨b, o, none⟩) xs.length cap] w fun e w' => ∃ v, e = .returned v ∧ w'.ownsRow w.heap.size 5 1 v xs.length (bs xs) ∧ Below w.heap.size w w' := by
  obtain ⟨i0, hi, hz0, hz1, hz2⟩ := info_parts infoU8
  have hne : ∀ W : World, (binOp .eql 35 (.slice (some ⟨b, o, none⟩) xs.length cap) (.slice none 0 0)).run Tryd.prog W = .ok (.bool false) W := fun W => Lib.run_eql_slice_nil W 35 5 (some ⟨b, o, none⟩) xs.length cap 0 0 Tryd.underlying35
  go_enter Tryd.func18, Tryd.ntmps18
  have hown : (w.alloc (.cells #[] 5)).ownsRow w.heap.size 5 1 (.slice (some ⟨w.heap.size, 0, none⟩) 0 0) 0 [] :=
    ⟨rfl, .inr ⟨w.heap.size, 0, #[], rfl, Nat.le_refl _, by rw [heap_alloc_eq, if_pos rfl], Nat.le_refl _, by unfold maxLen; omega, rfl, rfl⟩⟩
  have hla := ha.alloc (.cells #[] 5)
  clear ha
  go_wp2_with (first | (at_builtin; refine wpList_append_own _ rfl _ _ 35 rfl w.heap.size 5 i0 (.int .u8 0) 1 1 Tryd.underlying35 hi hz0 hz1 hz2 rfl (by decide) _ _ _ rfl hown ⟨b, o, none⟩ xs.length cap (bs xs) rfl ?c0 ?c1 ?c2 ?c3 ?c4 ?c5 ?_) | go_in)
  case c0 => simp [bs]
  case c1 =>
    intro j u hj
    have := hla.at hj
    simpa [Addr.add_lit] using this
  case c2 =>
    intro v hv
    obtain ⟨x, _, rfl⟩ := List.mem_map.1 hv
    rfl
  case c3 => unfold maxLen; omega
  case c4 => omega
  case c5 => simp
  intro v' w' hown' hgrow _
  have hb : Below w.heap.size w w' := ((Below.refl _ _).alloc (Nat.le_refl _) _).grown hgrow (by simp) fun g hg => (hown.lt g hg).1
  clear hgrow hown hla
  go_wp2
  go_ret
  exact ⟨_, rfl, hown', hb⟩

end Go.Proofs.YtdhholcbmeoagabDoor
