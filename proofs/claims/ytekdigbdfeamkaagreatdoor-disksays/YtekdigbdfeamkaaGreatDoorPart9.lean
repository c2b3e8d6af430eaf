import Derived.Test.YtekdigbdfeamkaaGreatDoorPart8
import Derived.Test.YtekdigbdfeamkaaGreatDoorPart1
import Derived.Test.YtekdigbdfeamkaaGreatDoorPart6
import Derived.Lib.SmallJoins
import Derived.Lib.AppendIntMem
/-
  Chapter 7: package note's hexOf: the word of a list of bytes.
-/
namespace Go.Proofs.YtekdigbdfeamkaaGreatDoor
open Go.RowKit
set_option linter.unusedVariables false
set_option linter.unusedSimpArgs false

theorem digGet : ∀ (m : Nat) (h : m < ({ data := #[48, 49, 50, 51, 52, 53, 54, 55, 56, 57, 97, 98, 99, 100, 101, 102] } : ByteArray).size), ({ data := #[48, 49, 50, 51, 52, 53, 54, 55, 56, 57, 97, 98, 99, 100, 101, 102] } : ByteArray)[m]'h = dig m
  | 0, _ => rfl
  | 1, _ => rfl
  | 2, _ => rfl
  | 3, _ => rfl
  | 4, _ => rfl
  | 5, _ => rfl
  | 6, _ => rfl
  | 7, _ => rfl
  | 8, _ => rfl
  | 9, _ => rfl
  | 10, _ => rfl
  | 11, _ => rfl
  | 12, _ => rfl
  | 13, _ => rfl
  | 14, _ => rfl
  | 15, _ => rfl
  | m + 16, h => absurd h (by show ¬ m + 16 < 16; omega)

theorem byteCells_snoc (l : List UInt8) (c : UInt8) : Lib.byteCells l ++ [.int .u8 (c.toNat : Int)] = Lib.byteCells (l ++ [c]) := by
  simp [Lib.byteCells]

theorem hexW_next (l : List UInt8) (q : Nat) (h : q < l.length) : hexW (l.take q) ++ [dig (l[q].toNat / 16)] ++ [dig (l[q].toNat % 16)] = hexW (l.take (q + 1)) := by
  have e : l.take (q + 1) = l.take q ++ [l[q]] := by rw [List.take_add_one, List.getElem?_eq_getElem h]; rfl
  rw [e, hexW, hexW, hexL_append, hexL_cons, hexL_nil]
  simp only [List.cons_append, List.append_assoc, List.nil_append]

theorem hexW_len (l : List UInt8) : (hexW l).length = 2 * l.length + 1 := by
  simp [hexW, hexL_len]

theorem byteCells_bs (l : List UInt8) : Lib.byteCells l = bs l := rfl

/-- how far the word is written -/
def HexInv (w wr : World) (l : List UInt8) (q : Nat) : Prop :=
  Lib.IsBuilderF 87 5 w.heap.size w.heap.size (Lib.byteCells (hexW (l.take q))) wr ∧ Below w.heap.size w wr

set_option maxHeartbeats 1000000 in
set_option maxRecDepth 8000 in
theorem hexOf_any (a : Option Addr) (cap : Nat) (l : List UInt8) (w : World) (hn : l.length ≤ 1048576) (hl : Lies w a (bs l)) :
    Calls Tryz.prog 33 #[.slice a l.length cap] w fun e w' => e = .returned (.string ⟨(hexW l).toArray⟩) ∧ Below w.heap.size w w' := by
  have hB0 : Below w.heap.size w (w.alloc (.cells #[.pointer none, .slice none 0 0] 87)) := (Below.refl _ _).alloc (Nat.le_refl _) _
  have hI0 : Lib.IsBuilderF 87 5 w.heap.size w.heap.size [] (w.alloc (.cells #[.pointer none, .slice none 0 0] 87)) := Lib.IsBuilderF.of (Lib.fresh_isBuilder 87 5 w)
  have hW1 := writeByte_any w.heap.size w.heap.size [] 45 _ hI0 (by simp) hB0.size
  go_enter Tryz.func33, Tryz.ntmps33
  go_wp2_with fail
  refine hW1.mono ?_
  rintro e w1 ⟨rfl, h1, hb1, _⟩
  have H0 : Shut (HexInv w w1 l 0) := ⟨Or.inr h1, hB0.trans hb1⟩
  clear hW1 hI0 hB0 h1 hb1
  go_wp2_with fail
  go_loopw [9] (fun m wr => ∃ q : Nat, q ≤ l.length ∧ m = .int .i64 q ∧ Shut (HexInv w wr l q)) (fun m _ => l.length - (intOf m).toNat)
  case atStart => exact ⟨0, Nat.zero_le _, rfl, H0⟩
  case round =>
    clear H0
    obtain ⟨q, hq, rfl, hI⟩ := hrel
    by_cases hlt : q < l.length
    · obtain ⟨ab, ao, rfl⟩ := hl.some (k := q) (by rw [bs_length]; exact hlt)
      have c1 : wr.cell? ⟨ab, ao + q, none⟩ = some (.int .u8 (l[q].toNat : Int)) := (hl.below hI.out.2 (Nat.le_refl _)).at (bs_get l q hlt)
      have hx := l[q].toNat_lt
      have hlen : (hexW (l.take q)).length ≤ 2 * l.length + 1 := by rw [hexW_len, List.length_take]; omega
      generalize hxq : l[q].toNat = x at c1 hx
      have hx1 : x / 16 < 16 := by omega
      have hx2 : x % 16 < 16 := by omega
      go_wp2_with fail
      rw [digGet]
      refine (writeByte_any w.heap.size w.heap.size _ _ wr hI.out.1 (by rw [Lib.byteCells_length]; omega) hI.out.2.size).mono ?_
      rintro e w2 ⟨rfl, h2, hb2, _⟩
      rw [byteCells_snoc] at h2
      have hb3 := hI.out.2.trans hb2
      have hW2 := writeByte_any w.heap.size w.heap.size _ ((dig (x % 16)).toNat : Int) w2 (Or.inr h2) (by rw [Lib.byteCells_length, List.length_append]; simp; omega) hb3.size
      clear hb2
      go_wp2_with fail
      rw [digGet]
      refine hW2.mono ?_
      rintro e w3 ⟨rfl, h3, hb4, _⟩
      rw [byteCells_snoc, ← hxq, hexW_next l q hlt] at h3
      have R : Shut (HexInv w w3 l (q + 1)) := ⟨Or.inr h3, hb3.trans hb4⟩
      clear h3 hb3 hb4 hW2 h2 hI c1
      go_wp2
      exact ⟨⟨q + 1, by omega, by go_num, R⟩, by simp [intOf]; omega⟩
    · obtain rfl : q = l.length := by omega
      have hS := Tryz.Builder_String_any_k w.heap.size w.heap.size _ wr hI.out.1 hI.out.2.size
      rw [List.take_length] at hS
      have hb := hI.out.2
      clear hI
      go_wp2_with fail
      refine hS.mono ?_
      rintro e w2 ⟨rfl, _, hb2, _⟩
      replace hb := hb.trans hb2
      clear hS hb2
      go_wp2
      go_ret
      exact ⟨rfl, hb⟩

end Go.Proofs.YtekdigbdfeamkaaGreatDoor

/-
  Chapter 7: package note's bytesOf: the bytes of a word.
-/
namespace Go.Proofs.YtekdigbdfeamkaaGreatDoor
open Go.RowKit
set_option linter.unusedVariables false
set_option linter.unusedSimpArgs false

/-- is there a dash ahead? -/
theorem dash_cases (l : List UInt8) : (Lib.hasPrefix l [45] = true ∧ ∃ r, l = 45 :: r) ∨ (Lib.hasPrefix l [45] = false ∧ byW l = none) := by
  cases l with
  | nil => right; exact ⟨rfl, rfl⟩
  | cons c r =>
    by_cases h : c = 45
    · left; subst h; exact ⟨by simp [Lib.hasPrefix], r, rfl⟩
    · right
      refine ⟨?_, ?_⟩
      · show (([45] : List UInt8).isPrefixOf (c :: r)) = false
        simp only [List.isPrefixOf]
        have : (45 == c) = false := beq_eq_false_iff_ne.2 (fun e => h e.symm)
        rw [this]; rfl
      · unfold byW
        split
        · rename_i e; injection e with e1 e2; exact absurd e1 h
        · rfl

theorem cutDashL_yes (s : ByteArray) (w : World) (h : Lib.hasPrefix s.data.toList [45] = true) :
    Calls Tryz.prog 121 #[.string s, .string ⟨#[45]⟩] w fun e w' => e = .returned (.tuple #[.string (s.extract 1 s.size), .bool true]) ∧ w = w' := by
  have hP := Tryz.stringslite_HasPrefix s ⟨#[45]⟩ w
  have e1 : Lib.hasPrefix s.data.toList (⟨#[45]⟩ : ByteArray).data.toList = true := h
  rw [e1] at hP
  have hs : 1 ≤ s.size := by
    rcases dash_cases s.data.toList with ⟨_, r, e⟩ | ⟨e, _⟩
    · have : s.size = (45 :: r).length := by rw [← e, Array.length_toList]; rfl
      rw [this, List.length_cons]; omega
    · rw [h] at e; cases e
  go_enter Tryz.func121, Tryz.ntmps121
  go_wp2_with fail
  refine hP.mono ?_
  rintro e _ ⟨rfl, rfl⟩
  go_wp2
  go_ret2
  exact ⟨rfl, rfl⟩

theorem cutDashL_no (s : ByteArray) (w : World) (h : Lib.hasPrefix s.data.toList [45] = false) :
    Calls Tryz.prog 121 #[.string s, .string ⟨#[45]⟩] w fun e w' => e = .returned (.tuple #[.string s, .bool false]) ∧ w = w' := by
  have hP := Tryz.stringslite_HasPrefix s ⟨#[45]⟩ w
  have e1 : Lib.hasPrefix s.data.toList (⟨#[45]⟩ : ByteArray).data.toList = false := h
  rw [e1] at hP
  go_enter Tryz.func121, Tryz.ntmps121
  go_wp2_with fail
  refine hP.mono ?_
  rintro e _ ⟨rfl, rfl⟩
  go_wp2
  go_ret2
  exact ⟨rfl, rfl⟩

theorem cutDash_yes (s : ByteArray) (w : World) (h : Lib.hasPrefix s.data.toList [45] = true) :
    Calls Tryz.prog 110 #[.string s, .string ⟨#[45]⟩] w fun e w' => e = .returned (.tuple #[.string (s.extract 1 s.size), .bool true]) ∧ w = w' := by
  have hP := cutDashL_yes s w h
  go_enter Tryz.func110, Tryz.ntmps110
  go_wp2_with fail
  refine hP.mono ?_
  rintro e _ ⟨rfl, rfl⟩
  go_wp2
  go_ret2
  exact ⟨rfl, rfl⟩

theorem cutDash_no (s : ByteArray) (w : World) (h : Lib.hasPrefix s.data.toList [45] = false) :
    Calls Tryz.prog 110 #[.string s, .string ⟨#[45]⟩] w fun e w' => e = .returned (.tuple #[.string s, .bool false]) ∧ w = w' := by
  have hP := cutDashL_no s w h
  go_enter Tryz.func110, Tryz.ntmps110
  go_wp2_with fail
  refine hP.mono ?_
  rintro e _ ⟨rfl, rfl⟩
  go_wp2
  go_ret2
  exact ⟨rfl, rfl⟩

theorem digIndex (x : UInt8) (w : World) : Calls Tryz.prog 60 #[.string { data := #[48, 49, 50, 51, 52, 53, 54, 55, 56, 57, 97, 98, 99, 100, 101, 102] }, .int .u8 (x.toNat : Int)] w fun e w' => e = .returned (.int .i64 (digI x)) ∧ w = w' := by
  refine (Tryz.strings_IndexByte _ _ w).mono ?_
  rintro e w' ⟨rfl, rfl⟩
  refine ⟨ret_int ?_, rfl⟩
  rw [Int.toNat_natCast]
  show Lib.indexByte digsL (UInt8.ofNat x.toNat) = digI x
  rw [UInt8.ofNat_toNat]
  rfl

theorem getB (D : ByteArray) (i : Nat) (h : i < D.size) : D[i] = D.data.toList[i]'(by simpa using h) := by
  simp [ByteArray.getElem_eq_getElem_data]

theorem sizeB (D : ByteArray) : D.data.toList.length = D.size := by simp

/-- how far the bytes are read -/
def HexRd (w wr : World) (v : Value) (ds : List UInt8) (q : Nat) : Prop :=
  ∃ a : List UInt8, a.length = q ∧ wr.ownsRow w.heap.size 5 1 v q (bs a) ∧ Below w.heap.size w wr ∧ unhex ds = (unhex (ds.drop (2 * q))).map (a ++ ·)

theorem drop_two {ds : List UInt8} {q : Nat} (h : 2 * q + 1 < ds.length) : ds.drop (2 * q) = ds[2 * q] :: ds[2 * q + 1] :: ds.drop (2 * (q + 1)) := by
  rw [List.drop_eq_getElem_cons (by omega), List.drop_eq_getElem_cons (by omega)]
  rfl

/-- what bytesOf leaves -/
def BytesR (B : Nat) (o : Option (List UInt8)) (e : Ending) (w' : World) : Prop :=
  match o with
  | none => e = .returned (.tuple #[.slice none 0 0, .bool false])
  | some l => ∃ (p : Option Addr) (cp : Nat), e = .returned (.tuple #[.slice p l.length cp, .bool true]) ∧ Lies w' p (bs l) ∧ ∀ b o, p = some ⟨b, o, none⟩ → B ≤ b

theorem orHexF : ∀ x y : Fin 16, bits BinOp.or IntKind.i64 (((x.val : Nat) : Int) * 16) ((y.val : Nat) : Int) % 256 = ((UInt8.ofNat (x.val * 16 + y.val)).toNat : Int) := by decide +kernel

theorem orHex (x y : Nat) (hx : x < 16) (hy : y < 16) : bits BinOp.or IntKind.i64 ((x : Int) * 16) (y : Int) % 256 = ((UInt8.ofNat (x * 16 + y)).toNat : Int) := orHexF ⟨x, hx⟩ ⟨y, hy⟩

set_option maxHeartbeats 1000000 in
set_option maxRecDepth 8000 in
theorem bytesOf_even (s D : ByteArray) (w : World) (hC : Calls Tryz.prog 110 #[.string s, .string ⟨#[45]⟩] w fun e w' => e = .returned (.tuple #[.string D, .bool true]) ∧ w = w') (hev : D.size % 2 = 0) (hs : D.size ≤ 60000) :
    Calls Tryz.prog 91 #[.string s] w fun e w' => Below w.heap.size w w' ∧ BytesR w.heap.size (unhex D.data.toList) e w' := by
  have hev' : (D.size : Int) % 2 = 0 := by omega
  obtain ⟨i0, hii, hz0, hz1, hz2⟩ := info_parts infoU8
  have H0 : Shut (HexRd w w (.slice none 0 0) D.data.toList 0) := ⟨[], rfl, World.ownsRow_nil _ _ _ _, Below.refl _ _, by rw [Nat.mul_zero, List.drop_zero]; cases unhex D.data.toList <;> rfl⟩
  go_enter Tryz.func91, Tryz.ntmps91
  go_wp2_with fail
  refine hC.mono ?_
  rintro e _ ⟨rfl, rfl⟩
  go_wp2_with fail
  go_loopw [6, 7] (fun v i wr => ∃ q : Nat, i = .int .i64 (2 * q : Nat) ∧ 2 * q ≤ D.size ∧ Shut (HexRd w wr v D.data.toList q)) (fun _ i _ => D.size - (intOf i).toNat)
  case atStart => exact ⟨0, rfl, by omega, H0⟩
  case round =>
    clear H0
    obtain ⟨q, rfl, hq, hI⟩ := hrel
    by_cases hlt : 2 * q < D.size
    · have hlt2 : 2 * q + 1 < D.size := by omega
      clear hev hev'
      obtain ⟨a, ha, hown, hbel, hun⟩ := hI.out
      rw [drop_two (by rw [sizeB]; exact hlt2), ← getB D (2 * q) hlt, ← getB D (2 * q + 1) hlt2, unhex] at hun
      have HU := Shut.mk hun
      clear hun hI
      have i1 := digIndex (D[2 * q]) wr
      have i2 := digIndex (D[2 * q + 1]) wr
      rcases digI_all (D[2 * q]) with m1 | ⟨m1, m2, m3⟩
      · have u1 : Shut (unhex D.data.toList = none) := ⟨by rw [HU.out, if_pos (Or.inl (by omega))]; rfl⟩
        rw [m1] at i1
        go_wp2_with fail
        refine i1.mono ?_
        rintro e _ ⟨rfl, rfl⟩
        go_wp2_with fail
        refine i2.mono ?_
        rintro e _ ⟨rfl, rfl⟩
        go_wp2
        go_ret2
        exact ⟨hbel, by rw [u1.out]; rfl⟩
      · rcases digI_all (D[2 * q + 1]) with n1 | ⟨n1, n2, n3⟩
        · have u1 : Shut (unhex D.data.toList = none) := ⟨by rw [HU.out, if_pos (Or.inr (by omega))]; rfl⟩
          have b1 : ¬ digI D[2 * q] < 0 := by omega
          rw [n1] at i2
          go_wp2_with fail
          refine i1.mono ?_
          rintro e _ ⟨rfl, rfl⟩
          go_wp2_with fail
          refine i2.mono ?_
          rintro e _ ⟨rfl, rfl⟩
          go_wp2
          go_ret2
          exact ⟨hbel, by rw [u1.out]; rfl⟩
        · have b1 : ¬ (digI D[2 * q] < 0 ∨ digI D[2 * q + 1] < 0) := by omega
          have hun := HU.out
          rw [if_neg b1] at hun
          have U := Shut.mk hun
          clear hun HU b1
          obtain ⟨x, hx⟩ : ∃ x : Nat, digI D[2 * q] = x := ⟨(digI D[2 * q]).toNat, by omega⟩
          obtain ⟨y, hy⟩ : ∃ y : Nat, digI D[2 * q + 1] = y := ⟨(digI D[2 * q + 1]).toNat, by omega⟩
          rw [hx] at i1 m1 m2 U
          rw [hy] at i2 n1 n2 U
          clear hx hy m3 n3
          have x1 : x < 16 := by omega
          have y1 : y < 16 := by omega
          clear m1 m2 n1 n2
          go_wp2_with fail
          refine i1.mono ?_
          rintro e _ ⟨rfl, rfl⟩
          go_wp2_with fail
          refine i2.mono ?_
          rintro e _ ⟨rfl, rfl⟩
          clear i1 i2
          have hsz := hbel.size
          go_wp2_with (first | (at_builtin; refine wpList_append_own _ rfl _ _ 22 rfl w.heap.size 5 i0 (.int .u8 0) 1 1 Tryz.underlying22 hii hz0 hz1 hz2 rfl (by decide) _ _ _ rfl (hown.alloc _) ⟨wr.heap.size, 0, none⟩ 1 1 [.int .u8 (bits BinOp.or IntKind.i64 ((x : Int) * 16) (y : Int) % 256)] rfl rfl ?c1 ?c2 ?c3 ?c4 ?c5 ?_) | fail)
          case c1 =>
            intro j u hj
            match j, hj with
            | 0, hj => simp at hj; subst hj; simp [Addr.add]
          case c2 => intro u hu; simp at hu; subst hu; rfl
          case c3 => unfold maxLen; omega
          case c4 => omega
          case c5 => simp; omega
          intro v' w4 hown' hgrow _
          rw [orHex x y x1 y1] at hown'
          have hB4 : Below w.heap.size w w4 := (hbel.alloc hbel.size _).grown hgrow (by simp; omega) (fun g hg' => (hown.lt g hg').1)
          have R : Shut (HexRd w w4 v' D.data.toList (q + 1)) := ⟨a ++ [UInt8.ofNat (x * 16 + y)], by simp [ha], by rw [bs, List.map_append]; exact hown', hB4, by
            rw [U.out]
            cases unhex (List.drop (2 * (q + 1)) D.data.toList) <;> simp⟩
          clear hown' hgrow hown hsz hbel U hB4
          go_wp2
          go_roundw
          case rel => exact ⟨q + 1, by go_num, by omega, R⟩
          case measure => simp [intOf]; omega
    · obtain hq2 : 2 * q = D.size := by omega
      clear hev hev'
      obtain ⟨a, ha, hown, hbel, hun⟩ := hI.out
      have hu : unhex D.data.toList = some a := by rw [hun, List.drop_eq_nil_of_le (by rw [sizeB]; omega)]; simp [unhex]
      have U := Shut.mk hu
      obtain ⟨p, cp, rfl, hlp, hq0⟩ := own_lies hown
      have hfr : ∀ b o, p = some ⟨b, o, none⟩ → w.heap.size ≤ b := fun b o e => (hown.lt b (by rw [e]; rfl)).1
      clear hq0 hI hun hu hown
      subst ha
      go_wp2
      go_ret2
      exact ⟨hbel, by rw [U.out]; exact ⟨p, cp, rfl, hlp, hfr⟩⟩

theorem bytesOf_odd (s D : ByteArray) (w : World) (hC : Calls Tryz.prog 110 #[.string s, .string ⟨#[45]⟩] w fun e w' => e = .returned (.tuple #[.string D, .bool true]) ∧ w = w') (hev : ¬ D.size % 2 = 0) (hs : D.size ≤ 60000) :
    Calls Tryz.prog 91 #[.string s] w fun e w' => Below w.heap.size w w' ∧ BytesR w.heap.size none e w' := by
  have hev' : (D.size : Int) % 2 = 1 := by omega
  go_enter Tryz.func91, Tryz.ntmps91
  go_wp2_with fail
  refine hC.mono ?_
  rintro e _ ⟨rfl, rfl⟩
  go_wp2
  go_ret2
  exact ⟨Below.refl _ _, rfl⟩

theorem bytesOf_bare (s : ByteArray) (w : World) (hC : Calls Tryz.prog 110 #[.string s, .string ⟨#[45]⟩] w fun e w' => e = .returned (.tuple #[.string s, .bool false]) ∧ w = w') :
    Calls Tryz.prog 91 #[.string s] w fun e w' => Below w.heap.size w w' ∧ BytesR w.heap.size none e w' := by
  go_enter Tryz.func91, Tryz.ntmps91
  go_wp2_with fail
  refine hC.mono ?_
  rintro e _ ⟨rfl, rfl⟩
  go_wp2
  go_ret2
  exact ⟨Below.refl _ _, rfl⟩

theorem bytesOf_any (s : ByteArray) (w : World) (hs : s.size ≤ 60000) :
    Calls Tryz.prog 91 #[.string s] w fun e w' => Below w.heap.size w w' ∧ BytesR w.heap.size (byW s.data.toList) e w' := by
  rcases dash_cases s.data.toList with ⟨h, r, hr⟩ | ⟨h, hn⟩
  · have hd : (s.extract 1 s.size).data.toList = r := by rw [Lib.extract_to_end, hr]; rfl
    have hl : (s.extract 1 s.size).size ≤ 60000 := by
      rw [← sizeB, hd]
      have := sizeB s
      rw [hr, List.length_cons] at this
      omega
    have hb : byW s.data.toList = unhex (s.extract 1 s.size).data.toList := by rw [hd, hr]; rfl
    rw [hb]
    by_cases hev : (s.extract 1 s.size).size % 2 = 0
    · exact bytesOf_even s _ w (cutDash_yes s w h) hev hl
    · rw [unhex_odd _ (by rw [sizeB]; exact hev)]
      exact bytesOf_odd s _ w (cutDash_yes s w h) hev hl
  · rw [hn]
    exact bytesOf_bare s w (cutDash_no s w h)

end Go.Proofs.YtekdigbdfeamkaaGreatDoor

/-
  Chapter 7: the library's variables, and its Itoa, Atoi, Split in the words of this proof; note.numbersOf and note.recordOf.
-/
namespace Go.Proofs.YtekdigbdfeamkaaGreatDoor
open Go.RowKit
set_option linter.unusedVariables false
set_option linter.unusedSimpArgs false

/-- the library's variables, as far as they are read -/
structure LaidN (w : World) : Prop where
  pow : Lib.TabIs Tryz.prog w "internal/strconv.uint64pow10" .u64 Lib.pow10Tab
  mx : ∃ m, w.cell? ⟨Tryz.lays143_ren.g 1, 0, none⟩ = some (.int .i64 m)
  syn : ∃ tp p, w.var? Tryz.prog "strconv.ErrSyntax" = some #[.iface tp p]
  rng : ∃ tp p, w.var? Tryz.prog "strconv.ErrRange" = some #[.iface tp p]

theorem varB {w w' : World} {n : String} {cs : Array Value} (h : w.var? Tryz.prog n = some cs) (hb : Below w.heap.size w w') : w'.var? Tryz.prog n = some cs := by
  unfold World.var? at *
  cases hg : Tryz.prog.globalNamed n with
  | none => rw [hg] at h; simp at h
  | some g =>
    rw [hg] at h
    simp only [Option.bind_some] at *
    cases hw : w.heap[g]? with
    | none => rw [hw] at h; simp at h
    | some o => rw [hw] at h; rw [blkB hw hb]; exact h

theorem LaidN.below {w w' : World} (h : LaidN w) (hb : Below w.heap.size w w') : LaidN w' := by
  obtain ⟨h1, ⟨m, h2⟩, ⟨t3, p3, h3⟩, ⟨t4, p4, h4⟩⟩ := h
  exact ⟨varB h1 hb, ⟨m, cellW h2 hb⟩, ⟨t3, p3, varB h3 hb⟩, ⟨t4, p4, varB h4 hb⟩⟩

theorem cellG {w : World} {n : String} {g : Nat} {v : Value} (hg : Tryz.prog.globalNamed n = some g) (h : w.var? Tryz.prog n = some #[v]) : w.cell? ⟨g, 0, none⟩ = some v := by
  unfold World.var? at h
  rw [hg] at h
  simp only [Option.bind_some] at h
  split at h
  · rename_i cs t f hw
    injection h with h
    subst h
    exact cellB hw 0 v rfl
  · cases h

theorem itoa_any (n : Int) (w : World) (hn : I64 n) (hL : LaidN w) :
    Calls Tryz.prog 32 #[.int .i64 n] w fun e w' => e = .returned (.string ⟨(Lib.itoa n).toArray⟩) ∧ Below w.heap.size w w' := by
  refine (Tryz.strconv_Itoa n hn.1 hn.2 w hL.pow).mono ?_
  rintro e w' ⟨rfl, k, os, rfl⟩
  exact ⟨rfl, Lib.below_grow _ _ (Nat.le_refl _) k os⟩

theorem atoi_good (s : ByteArray) (w : World) (v : Int) (hs : s.size ≤ 60000) (h : Lib.atoiAll s.data.toList = .ok v) :
    Calls Tryz.prog 90 #[.string s] w fun e w' => e = .returned (.tuple #[.int .i64 v, .nilIface]) ∧ Below w.heap.size w w' := by
  refine (Tryz.strconv_Atoi_ok s (by omega) v h w).mono ?_
  rintro e w' ⟨rfl, rfl | ⟨t, rfl⟩⟩
  · exact ⟨rfl, Below.refl _ _⟩
  · exact ⟨rfl, Joins.below_bytesWorld _ _ _ _ (Nat.le_refl _)⟩

theorem atoi_bad (s : ByteArray) (w : World) (hs : s.size ≤ 60000) (h : ∀ v, Lib.atoiAll s.data.toList ≠ .ok v) (hL : LaidN w) :
    Calls Tryz.prog 90 #[.string s] w fun e w' => ∃ v te pe, e = .returned (.tuple #[.int .i64 v, .iface te pe]) ∧ Below w.heap.size w w' := by
  cases ha : Lib.atoiAll s.data.toList with
  | ok v => exact absurd ha (h v)
  | «syntax» =>
    obtain ⟨tp, p, hv⟩ := hL.syn
    refine (Tryz.strconv_Atoi_syntax_var s (by omega) ha tp p w hv).mono ?_
    rintro e w' ⟨N, rfl, _, _, hb⟩
    exact ⟨_, _, _, rfl, hb⟩
  | range =>
    obtain ⟨tp, p, hv⟩ := hL.rng
    refine (Tryz.strconv_Atoi_range_var s (by omega) ha tp p w hv).mono ?_
    rintro e w' ⟨N, rfl, _, _, hb⟩
    exact ⟨_, _, _, rfl, hb⟩

theorem wordsL_short : ∀ (s : List UInt8), ∀ x ∈ wordsL s, x.length ≤ s.length
  | [], x, h => by simp [wordsL] at h; subst h; simp
  | c :: r, x, h => by
    have ih := wordsL_short r
    simp only [wordsL] at h
    split at h
    · rcases List.mem_cons.1 h with rfl | h
      · simp
      · have := ih x h; simp; omega
    · cases hw : wordsL r with
      | nil => exact absurd hw (wordsL_ne r)
      | cons y ys =>
        rw [hw] at h ih
        rcases List.mem_cons.1 h with rfl | h
        · have := ih y (by simp); simp; omega
        · have := ih x (List.mem_cons_of_mem _ h); simp; omega

theorem split_any (s : ByteArray) (w : World) (hs : s.size ≤ 60000) (hL : LaidN w) :
    Calls Tryz.prog 57 #[.string s, .string ⟨#[32]⟩] w fun e w' => ∃ ws : List ByteArray, e = .returned (.slice (some ⟨w.heap.size, 0, none⟩) ws.length ws.length) ∧ Lies w' (some ⟨w.heap.size, 0, none⟩) (ws.map Value.string) ∧ Below w.heap.size w w' ∧ ws.map (·.data.toList) = wordsL s.data.toList := by
  obtain ⟨m, hm⟩ := hL.mx
  refine (Tryz.strings_Split s ⟨#[32]⟩ m w (by omega) hm (by decide)).mono ?_
  rintro e w' ⟨rfl, rfl⟩
  have hw : (Lib.splitB ⟨#[32]⟩ 0 (Lib.countB s ⟨#[32]⟩) s).map (·.data.toList) = wordsL s.data.toList := by
    rw [Lib.splitB_data]
    exact split_words _ _ rfl
  have hl := Lib.splitB_all ⟨#[32]⟩ (by decide) 0 _ s rfl
  refine ⟨_, by rw [hl], ?_, (Below.refl _ _).alloc (Nat.le_refl _) _, hw⟩
  have := Lies.alloc_new w ((Lib.splitB ⟨#[32]⟩ 0 (Lib.countB s ⟨#[32]⟩) s).map Value.string).toArray 9
  simpa using this

/-- numbers as values -/
def ns (l : List Int) : List Value := l.map fun n => Value.int .i64 n

theorem numbersOf_any (r : Rc) (da : Option Addr) (dc : Nat) (ca : Option Addr) (cc : Nat) (w : World) :
    Calls Tryz.prog 31 #[rcV r da dc ca cc] w fun e w' => e = .returned (.agg (ns r.nums).toArray) ∧ Below w.heap.size w w' := by
  obtain ⟨k, p, n, y, ⟨F, Q, T, L, B, K⟩, id, d, c⟩ := r
  simp only [rcV]
  go_enter Tryz.func31, Tryz.ntmps31
  go_wp2
  refine bodyPost_ret (v := .agg #[.int .i64 k, .int .i64 p, .int .i64 n, .int .i64 y, .int .i64 F, .int .i64 Q, .int .i64 T, .int .i64 L, .int .i64 B, .int .i64 K, .int .i64 id]) (by simp [results, Tryz.results31, go_sem]) rfl ?_
  exact ⟨rfl, (((Below.refl _ _).alloc (Nat.le_refl _) _).alloc (by simp) _).alloc (by simp; omega) _⟩

theorem recordOf_any (l : List Int) (hl : l.length = 11) (d c : List UInt8) (da : Option Addr) (dc : Nat) (ca : Option Addr) (cc : Nat) (w : World) :
    Calls Tryz.prog 92 #[.agg (ns l).toArray, .slice da d.length dc, .slice ca c.length cc] w fun e w' => e = .returned (rcV (recOf l d c) da dc ca cc) ∧ Below w.heap.size w w' := by
  match l, hl with
  | [n0, n1, n2, n3, n4, n5, n6, n7, n8, n9, n10], _ =>
    simp only [rcV, recOf, ns, List.map_cons, List.map_nil]
    go_enter Tryz.func92, Tryz.ntmps92
    go_wp2
    refine bodyPost_ret (v := .agg #[.int .i64 n0, .int .i64 n1, .int .i64 n2, .int .i64 n3, .int .i64 n4, .int .i64 n5, .int .i64 n6, .int .i64 n7, .int .i64 n8, .int .i64 n9, .int .i64 n10, .slice da d.length dc, .slice ca c.length cc]) (by simp [results, Tryz.results92, go_sem]) rfl ?_
    exact ⟨rfl, ((Below.refl _ _).alloc (Nat.le_refl _) _).alloc (by simp) _⟩

end Go.Proofs.YtekdigbdfeamkaaGreatDoor
