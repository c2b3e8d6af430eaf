/-
  Chapter 7: package note's hexOf: the word of a list of bytes.
-/
import Derived.Test.YtcpnbkgkknlocaaDoorBld
import Derived.Test.YtcpnbkgkknlocaaDoorGen
namespace Go.Proofs.YtcpnbkgkknlocaaDoor
open Go.RowKit
set_option linter.unusedVariables false
set_option linter.unusedSimpArgs false

theorem digGet : ∀ (m : Nat) (h : m < ({ data := #[48, 49, 50, 51, 52, 53, 54, 55, 56, 57, 97, 98, 99, 100, 101, 102] } : ByteArray).size), ({ data := #[48, 49, 50, 51, 52, 53, 54, 55, 56, 57, 97, 98, 99, 100, 101, 102] } : ByteArray)[m]'h = dig m
  | 0, _ => rfl
  | 1, _ => rfl
  | 2, _ => rfl
  | 3, _ => rfl
  | 4, _ => rfl
  | 5, _ => rfl
  | 6, _ => rfl
  | 7, _ => rfl
  | 8, _ => rfl
  | 9, _ => rfl
  | 10, _ => rfl
  | 11, _ => rfl
  | 12, _ => rfl
  | 13, _ => rfl
  | 14, _ => rfl
  | 15, _ => rfl
  | m + 16, h => absurd h (by show ¬ m + 16 < 16; omega)

theorem byteCells_snoc (l : List UInt8) (c : UInt8) : Lib.byteCells l ++ [.int .u8 (c.toNat : Int)] = Lib.byteCells (l ++ [c]) := by
  simp [Lib.byteCells]

theorem hexW_next (l : List UInt8) (q : Nat) (h : q < l.length) : hexW (l.take q) ++ [dig (l[q].toNat / 16)] ++ [dig (l[q].toNat % 16)] = hexW (l.take (q + 1)) := by
  have e : l.take (q + 1) = l.take q ++ [l[q]] := by rw [List.take_add_one, List.getElem?_eq_getElem h]; rfl
  rw [e, hexW, hexW, hexL_append, hexL_cons, hexL_nil]
  simp only [List.cons_append, List.append_assoc, List.nil_append]

theorem hexW_len (l : List UInt8) : (hexW l).length = 2 * l.length + 1 := by
  simp [hexW, hexL_len]

theorem byteCells_bs (l : List UInt8) : Lib.byteCells l = bs l := rfl

/-- how far the word is written -/
def HexInv (w wr : World) (l : List UInt8) (q : Nat) : Prop :=
  Lib.IsBuilderF 71 5 w.heap.size w.heap.size (Lib.byteCells (hexW (l.take q))) wr ∧ Below w.heap.size w wr

set_option maxHeartbeats 1000000 in
set_option maxRecDepth 8000 in
theorem hexOf_any (a : Option Addr) (cap : Nat) (l : List UInt8) (w : World) (hn : l.length ≤ 1048576) (hl : Lies w a (bs l)) :
    Calls Tryd.prog 17 #[.slice a l.length cap] w fun e w' => e = .returned (.string ⟨(hexW l).toArray⟩) ∧ Below w.heap.size w w' := by
  have hB0 : Below w.heap.size w (w.alloc (.cells #[.pointer none, .slice none 0 0] 71)) := (Below.refl _ _).alloc (Nat.le_refl _) _
  have hI0 : Lib.IsBuilderF 71 5 w.heap.size w.heap.size [] (w.alloc (.cells #[.pointer none, .slice none 0 0] 71)) := Lib.IsBuilderF.of (Lib.fresh_isBuilder 71 5 w)
  have hW1 := writeByte_any w.heap.size w.heap.size [] 45 _ hI0 (by simp) hB0.size
  go_enter Tryd.func17, Tryd.ntmps17
  go_wp2_with fail
  refine hW1.mono ?_
  rintro e w1 ⟨rfl, h1, hb1, _⟩
  have H0 : Shut (HexInv w w1 l 0) := ⟨Or.inr h1, hB0.trans hb1⟩
  clear hW1 hI0 hB0 h1 hb1
  go_wp2_with fail
  go_loopw [9] (fun m wr => ∃ q : Nat, q ≤ l.length ∧ m = .int .i64 q ∧ Shut (HexInv w wr l q)) (fun m _ => l.length - (intOf m).toNat)
  case atStart => exact ⟨0, Nat.zero_le _, rfl, H0⟩
  case round =>
    clear H0
    obtain ⟨q, hq, rfl, hI⟩ := hrel
    by_cases hlt : q < l.length
    · obtain ⟨ab, ao, rfl⟩ := hl.some (k := q) (by rw [bs_length]; exact hlt)
      have c1 : wr.cell? ⟨ab, ao + q, none⟩ = some (.int .u8 (l[q].toNat : Int)) := (hl.below hI.out.2 (Nat.le_refl _)).at (bs_get l q hlt)
      have hx := l[q].toNat_lt
      have hlen : (hexW (l.take q)).length ≤ 2 * l.length + 1 := by rw [hexW_len, List.length_take]; omega
      generalize hxq : l[q].toNat = x at c1 hx
      have hx1 : x / 16 < 16 := by omega
      have hx2 : x % 16 < 16 := by omega
      go_wp2_with fail
      rw [digGet]
      refine (writeByte_any w.heap.size w.heap.size _ _ wr hI.out.1 (by rw [Lib.byteCells_length]; omega) hI.out.2.size).mono ?_
      rintro e w2 ⟨rfl, h2, hb2, _⟩
      rw [byteCells_snoc] at h2
      have hb3 := hI.out.2.trans hb2
      have hW2 := writeByte_any w.heap.size w.heap.size _ ((dig (x % 16)).toNat : Int) w2 (Or.inr h2) (by rw [Lib.byteCells_length, List.length_append]; simp; omega) hb3.size
      clear hb2
      go_wp2_with fail
      rw [digGet]
      refine hW2.mono ?_
      rintro e w3 ⟨rfl, h3, hb4, _⟩
      rw [byteCells_snoc, ← hxq, hexW_next l q hlt] at h3
      have R : Shut (HexInv w w3 l (q + 1)) := ⟨Or.inr h3, hb3.trans hb4⟩
      clear h3 hb3 hb4 hW2 h2 hI c1
      go_wp2
      exact ⟨⟨q + 1, by omega, by go_num, R⟩, by simp [intOf]; omega⟩
    · obtain rfl : q = l.length := by omega
      have hS := Tryd.Builder_String_any_k w.heap.size w.heap.size _ wr hI.out.1 hI.out.2.size
      rw [List.take_length] at hS
      have hb := hI.out.2
      clear hI
      go_wp2_with fail
      refine hS.mono ?_
      rintro e w2 ⟨rfl, _, hb2, _⟩
      replace hb := hb.trans hb2
      clear hS hb2
      go_wp2
      go_ret
      exact ⟨rfl, hb⟩

end Go.Proofs.YtcpnbkgkknlocaaDoor
