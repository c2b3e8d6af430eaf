/-
  bytes.Equal and sum.Same: the contract of each.
-/
import Derived.Test.YtclbmfjincekfabGen
import Derived.Test.YtclbmfjincekfabSum1
import Derived.Laws.BytesString
import Derived.Laws.Cells
namespace Go.Proofs.Ytclbmfjincekfab
open Go.RowKit
set_option linter.unusedVariables false
set_option linter.unusedSimpArgs false

theorem foldl_push (l : List UInt8) (s : ByteArray) : ((l.map fun x => (x.toNat : Int)).foldl (fun r n => r.push (UInt8.ofNat n.toNat)) s).data.toList = s.data.toList ++ l := by
  induction l generalizing s with
  | nil => simp
  | cons x r ih =>
    simp only [List.map_cons, List.foldl_cons]
    rw [ih]
    simp [ByteArray.push]

theorem conv_bytes {w : World} {a : Option Addr} {n c : Nat} {l : List UInt8} (h : Lies w a (bs l)) (hl : l.length = n) :
    (convert 26 9 (.slice a n c)).run Try.prog w = .ok (.string ⟨l.toArray⟩) w := by
  rw [run_convert_bytes_string w 26 9 5 a n c Try.underlying26 Try.underlying5 Try.underlying9]
  cases a with
  | none =>
    have : l = [] := by
      cases l with
      | nil => rfl
      | cons x r => obtain ⟨_, _, e, _⟩ := h 0 _ (by simp [bs]; rfl); simp at e
    subst this
    simp [Conv.bytesToString, Sem.run_pure]
    rfl
  | some ad =>
    have hlc : (loadCells ad n).run Try.prog w = .ok ((l.map fun x => (x.toNat : Int)).map (Value.int .u8)).toArray w := by
      have hh := run_loadCells_list (P := Try.prog) w ad ((l.map fun x => (x.toNat : Int)).map (Value.int .u8)) (fun j v hj => by
        obtain ⟨b, off, e, hc⟩ := h j v (by simpa [bs] using hj)
        simp at e
        subst e
        simpa [Addr.add_lit] using hc)
      simpa [hl] using hh
    rw [run_bytesToString w ad n c _ hlc]
    congr 2
    have := foldl_push l ByteArray.empty
    simp at this
    cases hh : ((l.map fun x => (x.toNat : Int)).foldl (fun r n => r.push (UInt8.ofNat n.toNat)) ByteArray.empty) with
    | mk d =>
      rw [hh] at this
      simp at this
      subst this
      simp


theorem beq_dec (xs ys : List UInt8) : (xs == ys) = decide (xs = ys) := by
  by_cases h : xs = ys
  · simp [h]
  · simp [h]

theorem bytesEqual_any (a b : Option Addr) (ca cb : Nat) (xs ys : List UInt8) (w : World) (ha : Lies w a (bs xs)) (hb : Lies w b (bs ys)) :
    Calls Try.prog 40 #[.slice a xs.length ca, .slice b ys.length cb] w fun e w' => e = .returned (.bool (decide (xs = ys))) ∧ w = w' := by
  have h1 := conv_bytes (c := ca) ha rfl
  have h2 := conv_bytes (c := cb) hb rfl
  clear ha hb
  go_enter Try.func40, Try.ntmps40
  go_wp2
  go_ret
  exact ⟨ret_bool (beq_dec xs ys), rfl⟩

theorem same_any (a b : Option Addr) (n m ca cb : Nat) (xs ys : List UInt8) (w : World) (hn : xs.length = n) (hm : ys.length = m) (ha : Lies w a (bs xs)) (hb : Lies w b (bs ys)) :
    Calls Try.prog 23 #[.slice a n ca, .slice b m cb] w fun e w' => e = .returned (.bool (decide (xs = ys))) ∧ w = w' := by
  subst hn hm
  go_enter Try.func23, Try.ntmps23
  go_wp2_with fail
  refine (bytesEqual_any _ _ _ _ xs ys _ ha hb).mono ?_
  rintro e w' ⟨rfl, rfl⟩
  go_wp2
  go_ret
  exact ⟨rfl, rfl⟩

end Go.Proofs.Ytclbmfjincekfab
