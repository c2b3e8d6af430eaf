/-
  Chapter 7: the library's variables, and its Itoa, Atoi, Split in the words of this proof; note.numbersOf and note.recordOf.
-/
import Derived.Test.YtcpnbkgkknlocaaDoorNoteA
import Derived.Test.YtcpnbkgkknlocaaDoorNoteD
import Derived.Lib.SmallJoins
import Derived.Lib.AppendIntMem
namespace Go.Proofs.YtcpnbkgkknlocaaDoor
open Go.RowKit
set_option linter.unusedVariables false
set_option linter.unusedSimpArgs false

/-- the library's variables, as far as they are read -/
structure LaidN (w : World) : Prop where
  pow : Lib.TabIs Tryd.prog w "internal/strconv.uint64pow10" .u64 Lib.pow10Tab
  mx : ∃ m, w.cell? ⟨Tryd.laysM143_ren.g 1, 0, none⟩ = some (.int .i64 m)
  syn : ∃ tp p, w.var? Tryd.prog "strconv.ErrSyntax" = some #[.iface tp p]
  rng : ∃ tp p, w.var? Tryd.prog "strconv.ErrRange" = some #[.iface tp p]

theorem varB {w w' : World} {n : String} {cs : Array Value} (h : w.var? Tryd.prog n = some cs) (hb : Below w.heap.size w w') : w'.var? Tryd.prog n = some cs := by
  unfold World.var? at *
  cases hg : Tryd.prog.globalNamed n with
  | none => rw [hg] at h; simp at h
  | some g =>
    rw [hg] at h
    simp only [Option.bind_some] at *
    cases hw : w.heap[g]? with
    | none => rw [hw] at h; simp at h
    | some o => rw [hw] at h; rw [blkB hw hb]; exact h

theorem LaidN.below {w w' : World} (h : LaidN w) (hb : Below w.heap.size w w') : LaidN w' := by
  obtain ⟨h1, ⟨m, h2⟩, ⟨t3, p3, h3⟩, ⟨t4, p4, h4⟩⟩ := h
  exact ⟨varB h1 hb, ⟨m, cellW h2 hb⟩, ⟨t3, p3, varB h3 hb⟩, ⟨t4, p4, varB h4 hb⟩⟩

theorem cellG {w : World} {n : String} {g : Nat} {v : Value} (hg : Tryd.prog.globalNamed n = some g) (h : w.var? Tryd.prog n = some #[v]) : w.cell? ⟨g, 0, none⟩ = some v := by
  unfold World.var? at h
  rw [hg] at h
  simp only [Option.bind_some] at h
  split at h
  · rename_i cs t f hw
    injection h with h
    subst h
    exact cellB hw 0 v rfl
  · cases h

theorem itoa_any (n : Int) (w : World) (hn : I64 n) (hL : LaidN w) :
    Calls Tryd.prog 16 #[.int .i64 n] w fun e w' => e = .returned (.string ⟨(Lib.itoa n).toArray⟩) ∧ Below w.heap.size w w' := by
  refine (Tryd.strconv_Itoa n hn.1 hn.2 w hL.pow).mono ?_
  rintro e w' ⟨rfl, k, os, rfl⟩
  exact ⟨rfl, Lib.below_grow _ _ (Nat.le_refl _) k os⟩

theorem atoi_good (s : ByteArray) (w : World) (v : Int) (hs : s.size ≤ 60000) (h : Lib.atoiAll s.data.toList = .ok v) :
    Calls Tryd.prog 42 #[.string s] w fun e w' => e = .returned (.tuple #[.int .i64 v, .nilIface]) ∧ Below w.heap.size w w' := by
  refine (Tryd.strconv_Atoi_ok s (by omega) v h w).mono ?_
  rintro e w' ⟨rfl, rfl | ⟨t, rfl⟩⟩
  · exact ⟨rfl, Below.refl _ _⟩
  · exact ⟨rfl, Joins.below_bytesWorld _ _ _ _ (Nat.le_refl _)⟩

theorem atoi_bad (s : ByteArray) (w : World) (hs : s.size ≤ 60000) (h : ∀ v, Lib.atoiAll s.data.toList ≠ .ok v) (hL : LaidN w) :
    Calls Tryd.prog 42 #[.string s] w fun e w' => ∃ v te pe, e = .returned (.tuple #[.int .i64 v, .iface te pe]) ∧ Below w.heap.size w w' := by
  cases ha : Lib.atoiAll s.data.toList with
  | ok v => exact absurd ha (h v)
  | «syntax» =>
    obtain ⟨tp, p, hv⟩ := hL.syn
    refine (Tryd.strconv_Atoi_syntax_var s (by omega) ha tp p w hv).mono ?_
    rintro e w' ⟨N, rfl, _, _, hb⟩
    exact ⟨_, _, _, rfl, hb⟩
  | range =>
    obtain ⟨tp, p, hv⟩ := hL.rng
    refine (Tryd.strconv_Atoi_range_var s (by omega) ha tp p w hv).mono ?_
    rintro e w' ⟨N, rfl, _, _, hb⟩
    exact ⟨_, _, _, rfl, hb⟩

theorem wordsL_short : ∀ (s : List UInt8), ∀ x ∈ wordsL s, x.length ≤ s.length
  | [], x, h => by simp [wordsL] at h; subst h; simp
  | c :: r, x, h => by
    have ih := wordsL_short r
    simp only [wordsL] at h
    split at h
    · rcases List.mem_cons.1 h with rfl | h
      · simp
      · have := ih x h; simp; omega
    · cases hw : wordsL r with
      | nil => exact absurd hw (wordsL_ne r)
      | cons y ys =>
        rw [hw] at h ih
        rcases List.mem_cons.1 h with rfl | h
        · have := ih y (by simp); simp; omega
        · have := ih x (List.mem_cons_of_mem _ h); simp; omega

theorem split_any (s : ByteArray) (w : World) (hs : s.size ≤ 60000) (hL : LaidN w) :
    Calls Tryd.prog 33 #[.string s, .string ⟨#[32]⟩] w fun e w' => ∃ ws : List ByteArray, e = .returned (.slice (some ⟨w.heap.size, 0, none⟩) ws.length ws.length) ∧ Lies w' (some ⟨w.heap.size, 0, none⟩) (ws.map Value.string) ∧ Below w.heap.size w w' ∧ ws.map (·.data.toList) = wordsL s.data.toList := by
  obtain ⟨m, hm⟩ := hL.mx
  refine (Tryd.strings_Split s ⟨#[32]⟩ m w (by omega) hm (by decide)).mono ?_
  rintro e w' ⟨rfl, rfl⟩
  have hw : (Lib.splitB ⟨#[32]⟩ 0 (Lib.countB s ⟨#[32]⟩) s).map (·.data.toList) = wordsL s.data.toList := by
    rw [Lib.splitB_data]
    exact split_words _ _ rfl
  have hl := Lib.splitB_all ⟨#[32]⟩ (by decide) 0 _ s rfl
  refine ⟨_, by rw [hl], ?_, (Below.refl _ _).alloc (Nat.le_refl _) _, hw⟩
  have := Lies.alloc_new w ((Lib.splitB ⟨#[32]⟩ 0 (Lib.countB s ⟨#[32]⟩) s).map Value.string).toArray 9
  simpa using this

/-- numbers as values -/
def ns (l : List Int) : List Value := l.map fun n => Value.int .i64 n

theorem numbersOf_any (r : Rc) (da : Option Addr) (dc : Nat) (ca : Option Addr) (cc : Nat) (w : World) :
    Calls Tryd.prog 15 #[rcV r da dc ca cc] w fun e w' => e = .returned (.agg (ns r.nums).toArray) ∧ Below w.heap.size w w' := by
  obtain ⟨k, p, n, y, ⟨F, Q, T, L, B, K⟩, id, d, c⟩ := r
  simp only [rcV]
  go_enter Tryd.func15, Tryd.ntmps15
  go_wp2
  refine bodyPost_ret (v := .agg #[.int .i64 k, .int .i64 p, .int .i64 n, .int .i64 y, .int .i64 F, .int .i64 Q, .int .i64 T, .int .i64 L, .int .i64 B, .int .i64 K, .int .i64 id]) (by simp [results, Tryd.results15, go_sem]) rfl ?_
  exact ⟨rfl, (((Below.refl _ _).alloc (Nat.le_refl _) _).alloc (by simp) _).alloc (by simp; omega) _⟩

theorem recordOf_any (l : List Int) (hl : l.length = 11) (d c : List UInt8) (da : Option Addr) (dc : Nat) (ca : Option Addr) (cc : Nat) (w : World) :
    Calls Tryd.prog 44 #[.agg (ns l).toArray, .slice da d.length dc, .slice ca c.length cc] w fun e w' => e = .returned (rcV (recOf l d c) da dc ca cc) ∧ Below w.heap.size w w' := by
  match l, hl with
  | [n0, n1, n2, n3, n4, n5, n6, n7, n8, n9, n10], _ =>
    simp only [rcV, recOf, ns, List.map_cons, List.map_nil]
    go_enter Tryd.func44, Tryd.ntmps44
    go_wp2
    refine bodyPost_ret (v := .agg #[.int .i64 n0, .int .i64 n1, .int .i64 n2, .int .i64 n3, .int .i64 n4, .int .i64 n5, .int .i64 n6, .int .i64 n7, .int .i64 n8, .int .i64 n9, .int .i64 n10, .slice da d.length dc, .slice ca c.length cc]) (by simp [results, Tryd.results44, go_sem]) rfl ?_
    exact ⟨rfl, ((Below.refl _ _).alloc (Nat.le_refl _) _).alloc (by simp) _⟩

end Go.Proofs.YtcpnbkgkknlocaaDoor
