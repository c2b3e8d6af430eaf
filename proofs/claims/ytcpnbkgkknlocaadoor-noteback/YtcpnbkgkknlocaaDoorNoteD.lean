/-
  Chapter 7: package note's bytesOf: the bytes of a word.
-/
import Derived.Test.YtcpnbkgkknlocaaDoorNoteC
import Derived.Test.YtcpnbkgkknlocaaDoorCode1
namespace Go.Proofs.YtcpnbkgkknlocaaDoor
open Go.RowKit
set_option linter.unusedVariables false
set_option linter.unusedSimpArgs false

/-- is there a dash ahead? -/
theorem dash_cases (l : List UInt8) : (Lib.hasPrefix l [45] = true ∧ ∃ r, l = 45 :: r) ∨ (Lib.hasPrefix l [45] = false ∧ byW l = none) := by
  cases l with
  | nil => right; exact ⟨rfl, rfl⟩
  | cons c r =>
    by_cases h : c = 45
    · left; subst h; exact ⟨by simp [Lib.hasPrefix], r, rfl⟩
    · right
      refine ⟨?_, ?_⟩
      · show (([45] : List UInt8).isPrefixOf (c :: r)) = false
        simp only [List.isPrefixOf]
        have : (45 == c) = false := beq_eq_false_iff_ne.2 (fun e => h e.symm)
        rw [this]; rfl
      · unfold byW
        split
        · rename_i e; injection e with e1 e2; exact absurd e1 h
        · rfl

theorem cutDashL_yes (s : ByteArray) (w : World) (h : Lib.hasPrefix s.data.toList [45] = true) :
    Calls Tryd.prog 78 #[.string s, .string ⟨#[45]⟩] w fun e w' => e = .returned (.tuple #[.string (s.extract 1 s.size), .bool true]) ∧ w = w' := by
  have hP := Tryd.stringslite_HasPrefix s ⟨#[45]⟩ w
  have e1 : Lib.hasPrefix s.data.toList (⟨#[45]⟩ : ByteArray).data.toList = true := h
  rw [e1] at hP
  have hs : 1 ≤ s.size := by
    rcases dash_cases s.data.toList with ⟨_, r, e⟩ | ⟨e, _⟩
    · have : s.size = (45 :: r).length := by rw [← e, Array.length_toList]; rfl
      rw [this, List.length_cons]; omega
    · rw [h] at e; cases e
  go_enter Tryd.func78, Tryd.ntmps78
  go_wp2_with fail
  refine hP.mono ?_
  rintro e _ ⟨rfl, rfl⟩
  go_wp2
  go_ret2
  exact ⟨rfl, rfl⟩

theorem cutDashL_no (s : ByteArray) (w : World) (h : Lib.hasPrefix s.data.toList [45] = false) :
    Calls Tryd.prog 78 #[.string s, .string ⟨#[45]⟩] w fun e w' => e = .returned (.tuple #[.string s, .bool false]) ∧ w = w' := by
  have hP := Tryd.stringslite_HasPrefix s ⟨#[45]⟩ w
  have e1 : Lib.hasPrefix s.data.toList (⟨#[45]⟩ : ByteArray).data.toList = false := h
  rw [e1] at hP
  go_enter Tryd.func78, Tryd.ntmps78
  go_wp2_with fail
  refine hP.mono ?_
  rintro e _ ⟨rfl, rfl⟩
  go_wp2
  go_ret2
  exact ⟨rfl, rfl⟩

theorem cutDash_yes (s : ByteArray) (w : World) (h : Lib.hasPrefix s.data.toList [45] = true) :
    Calls Tryd.prog 61 #[.string s, .string ⟨#[45]⟩] w fun e w' => e = .returned (.tuple #[.string (s.extract 1 s.size), .bool true]) ∧ w = w' := by
  have hP := cutDashL_yes s w h
  go_enter Tryd.func61, Tryd.ntmps61
  go_wp2_with fail
  refine hP.mono ?_
  rintro e _ ⟨rfl, rfl⟩
  go_wp2
  go_ret2
  exact ⟨rfl, rfl⟩

theorem cutDash_no (s : ByteArray) (w : World) (h : Lib.hasPrefix s.data.toList [45] = false) :
    Calls Tryd.prog 61 #[.string s, .string ⟨#[45]⟩] w fun e w' => e = .returned (.tuple #[.string s, .bool false]) ∧ w = w' := by
  have hP := cutDashL_no s w h
  go_enter Tryd.func61, Tryd.ntmps61
  go_wp2_with fail
  refine hP.mono ?_
  rintro e _ ⟨rfl, rfl⟩
  go_wp2
  go_ret2
  exact ⟨rfl, rfl⟩

theorem digIndex (x : UInt8) (w : World) : Calls Tryd.prog 36 #[.string { data := #[48, 49, 50, 51, 52, 53, 54, 55, 56, 57, 97, 98, 99, 100, 101, 102] }, .int .u8 (x.toNat : Int)] w fun e w' => e = .returned (.int .i64 (digI x)) ∧ w = w' := by
  refine (Tryd.strings_IndexByte _ _ w).mono ?_
  rintro e w' ⟨rfl, rfl⟩
  refine ⟨ret_int ?_, rfl⟩
  rw [Int.toNat_natCast]
  show Lib.indexByte digsL (UInt8.ofNat x.toNat) = digI x
  rw [UInt8.ofNat_toNat]
  rfl

theorem getB (D : ByteArray) (i : Nat) (h : i < D.size) : D[i] = D.data.toList[i]'(by simpa using h) := by
  simp [ByteArray.getElem_eq_getElem_data]

theorem sizeB (D : ByteArray) : D.data.toList.length = D.size := by simp

/-- how far the bytes are read -/
def HexRd (w wr : World) (v : Value) (ds : List UInt8) (q : Nat) : Prop :=
  ∃ a : List UInt8, a.length = q ∧ wr.ownsRow w.heap.size 5 1 v q (bs a) ∧ Below w.heap.size w wr ∧ unhex ds = (unhex (ds.drop (2 * q))).map (a ++ ·)

theorem drop_two {ds : List UInt8} {q : Nat} (h : 2 * q + 1 < ds.length) : ds.drop (2 * q) = ds[2 * q] :: ds[2 * q + 1] :: ds.drop (2 * (q + 1)) := by
  rw [List.drop_eq_getElem_cons (by omega), List.drop_eq_getElem_cons (by omega)]
  rfl

/-- what bytesOf leaves -/
def BytesR (B : Nat) (o : Option (List UInt8)) (e : Ending) (w' : World) : Prop :=
  match o with
  | none => e = .returned (.tuple #[.slice none 0 0, .bool false])
  | some l => ∃ (p : Option Addr) (cp : Nat), e = .returned (.tuple #[.slice p l.length cp, .bool true]) ∧ Lies w' p (bs l) ∧ ∀ b o, p = some ⟨b, o, none⟩ → B ≤ b

theorem orHexF : ∀ x y : Fin 16, bits BinOp.or IntKind.i64 (((x.val : Nat) : Int) * 16) ((y.val : Nat) : Int) % 256 = ((UInt8.ofNat (x.val * 16 + y.val)).toNat : Int) := by decide +kernel

theorem orHex (x y : Nat) (hx : x < 16) (hy : y < 16) : bits BinOp.or IntKind.i64 ((x : Int) * 16) (y : Int) % 256 = ((UInt8.ofNat (x * 16 + y)).toNat : Int) := orHexF ⟨x, hx⟩ ⟨y, hy⟩

set_option maxHeartbeats 1000000 in
set_option maxRecDepth 8000 in
theorem bytesOf_even (s D : ByteArray) (w : World) (hC : Calls Tryd.prog 61 #[.string s, .string ⟨#[45]⟩] w fun e w' => e = .returned (.tuple #[.string D, .bool true]) ∧ w = w') (hev : D.size % 2 = 0) (hs : D.size ≤ 60000) :
    Calls Tryd.prog 43 #[.string s] w fun e w' => Below w.heap.size w w' ∧ BytesR w.heap.size (unhex D.data.toList) e w' := by
  have hev' : (D.size : Int) % 2 = 0 := by omega
  obtain ⟨i0, hii, hz0, hz1, hz2⟩ := info_parts infoU8
  have H0 : Shut (HexRd w w (.slice none 0 0) D.data.toList 0) := ⟨[], rfl, World.ownsRow_nil _ _ _ _, Below.refl _ _, by rw [Nat.mul_zero, List.drop_zero]; cases unhex D.data.toList <;> rfl⟩
  go_enter Tryd.func43, Tryd.ntmps43
  go_wp2_with fail
  refine hC.mono ?_
  rintro e _ ⟨rfl, rfl⟩
  go_wp2_with fail
  go_loopw [6, 7] (fun v i wr => ∃ q : Nat, i = .int .i64 (2 * q : Nat) ∧ 2 * q ≤ D.size ∧ Shut (HexRd w wr v D.data.toList q)) (fun _ i _ => D.size - (intOf i).toNat)
  case atStart => exact ⟨0, rfl, by omega, H0⟩
  case round =>
    clear H0
    obtain ⟨q, rfl, hq, hI⟩ := hrel
    by_cases hlt : 2 * q < D.size
    · have hlt2 : 2 * q + 1 < D.size := by omega
      clear hev hev'
      obtain ⟨a, ha, hown, hbel, hun⟩ := hI.out
      rw [drop_two (by rw [sizeB]; exact hlt2), ← getB D (2 * q) hlt, ← getB D (2 * q + 1) hlt2, unhex] at hun
      have HU := Shut.mk hun
      clear hun hI
      have i1 := digIndex (D[2 * q]) wr
      have i2 := digIndex (D[2 * q + 1]) wr
      rcases digI_all (D[2 * q]) with m1 | ⟨m1, m2, m3⟩
      · have u1 : Shut (unhex D.data.toList = none) := ⟨by rw [HU.out, if_pos (Or.inl (by omega))]; rfl⟩
        rw [m1] at i1
        go_wp2_with fail
        refine i1.mono ?_
        rintro e _ ⟨rfl, rfl⟩
        go_wp2_with fail
        refine i2.mono ?_
        rintro e _ ⟨rfl, rfl⟩
        go_wp2
        go_ret2
        exact ⟨hbel, by rw [u1.out]; rfl⟩
      · rcases digI_all (D[2 * q + 1]) with n1 | ⟨n1, n2, n3⟩
        · have u1 : Shut (unhex D.data.toList = none) := ⟨by rw [HU.out, if_pos (Or.inr (by omega))]; rfl⟩
          have b1 : ¬ digI D[2 * q] < 0 := by omega
          rw [n1] at i2
          go_wp2_with fail
          refine i1.mono ?_
          rintro e _ ⟨rfl, rfl⟩
          go_wp2_with fail
          refine i2.mono ?_
          rintro e _ ⟨rfl, rfl⟩
          go_wp2
          go_ret2
          exact ⟨hbel, by rw [u1.out]; rfl⟩
        · have b1 : ¬ (digI D[2 * q] < 0 ∨ digI D[2 * q + 1] < 0) := by omega
          have hun := HU.out
          rw [if_neg b1] at hun
          have U := Shut.mk hun
          clear hun HU b1
          obtain ⟨x, hx⟩ : ∃ x : Nat, digI D[2 * q] = x := ⟨(digI D[2 * q]).toNat, by omega⟩
          obtain ⟨y, hy⟩ : ∃ y : Nat, digI D[2 * q + 1] = y := ⟨(digI D[2 * q + 1]).toNat, by omega⟩
          rw [hx] at i1 m1 m2 U
          rw [hy] at i2 n1 n2 U
          clear hx hy m3 n3
          have x1 : x < 16 := by omega
          have y1 : y < 16 := by omega
          clear m1 m2 n1 n2
          go_wp2_with fail
          refine i1.mono ?_
          rintro e _ ⟨rfl, rfl⟩
          go_wp2_with fail
          refine i2.mono ?_
          rintro e _ ⟨rfl, rfl⟩
          clear i1 i2
          have hsz := hbel.size
          go_wp2_with (first | (at_builtin; refine wpList_append_own _ rfl _ _ 26 rfl w.heap.size 5 i0 (.int .u8 0) 1 1 Tryd.underlying26 hii hz0 hz1 hz2 rfl (by decide) _ _ _ rfl (hown.alloc _) ⟨wr.heap.size, 0, none⟩ 1 1 [.int .u8 (bits BinOp.or IntKind.i64 ((x : Int) * 16) (y : Int) % 256)] rfl rfl ?c1 ?c2 ?c3 ?c4 ?c5 ?_) | fail)
          case c1 =>
            intro j u hj
            match j, hj with
            | 0, hj => simp at hj; subst hj; simp [Addr.add]
          case c2 => intro u hu; simp at hu; subst hu; rfl
          case c3 => unfold maxLen; omega
          case c4 => omega
          case c5 => simp; omega
          intro v' w4 hown' hgrow _
          rw [orHex x y x1 y1] at hown'
          have hB4 : Below w.heap.size w w4 := (hbel.alloc hbel.size _).grown hgrow (by simp; omega) (fun g hg' => (hown.lt g hg').1)
          have R : Shut (HexRd w w4 v' D.data.toList (q + 1)) := ⟨a ++ [UInt8.ofNat (x * 16 + y)], by simp [ha], by rw [bs, List.map_append]; exact hown', hB4, by
            rw [U.out]
            cases unhex (List.drop (2 * (q + 1)) D.data.toList) <;> simp⟩
          clear hown' hgrow hown hsz hbel U hB4
          go_wp2
          go_roundw
          case rel => exact ⟨q + 1, by go_num, by omega, R⟩
          case measure => simp [intOf]; omega
    · obtain hq2 : 2 * q = D.size := by omega
      clear hev hev'
      obtain ⟨a, ha, hown, hbel, hun⟩ := hI.out
      have hu : unhex D.data.toList = some a := by rw [hun, List.drop_eq_nil_of_le (by rw [sizeB]; omega)]; simp [unhex]
      have U := Shut.mk hu
      obtain ⟨p, cp, rfl, hlp, hq0⟩ := own_lies hown
      have hfr : ∀ b o, p = some ⟨b, o, none⟩ → w.heap.size ≤ b := fun b o e => (hown.lt b (by rw [e]; rfl)).1
      clear hq0 hI hun hu hown
      subst ha
      go_wp2
      go_ret2
      exact ⟨hbel, by rw [U.out]; exact ⟨p, cp, rfl, hlp, hfr⟩⟩

theorem bytesOf_odd (s D : ByteArray) (w : World) (hC : Calls Tryd.prog 61 #[.string s, .string ⟨#[45]⟩] w fun e w' => e = .returned (.tuple #[.string D, .bool true]) ∧ w = w') (hev : ¬ D.size % 2 = 0) (hs : D.size ≤ 60000) :
    Calls Tryd.prog 43 #[.string s] w fun e w' => Below w.heap.size w w' ∧ BytesR w.heap.size none e w' := by
  have hev' : (D.size : Int) % 2 = 1 := by omega
  go_enter Tryd.func43, Tryd.ntmps43
  go_wp2_with fail
  refine hC.mono ?_
  rintro e _ ⟨rfl, rfl⟩
  go_wp2
  go_ret2
  exact ⟨Below.refl _ _, rfl⟩

theorem bytesOf_bare (s : ByteArray) (w : World) (hC : Calls Tryd.prog 61 #[.string s, .string ⟨#[45]⟩] w fun e w' => e = .returned (.tuple #[.string s, .bool false]) ∧ w = w') :
    Calls Tryd.prog 43 #[.string s] w fun e w' => Below w.heap.size w w' ∧ BytesR w.heap.size none e w' := by
  go_enter Tryd.func43, Tryd.ntmps43
  go_wp2_with fail
  refine hC.mono ?_
  rintro e _ ⟨rfl, rfl⟩
  go_wp2
  go_ret2
  exact ⟨Below.refl _ _, rfl⟩

theorem bytesOf_any (s : ByteArray) (w : World) (hs : s.size ≤ 60000) :
    Calls Tryd.prog 43 #[.string s] w fun e w' => Below w.heap.size w w' ∧ BytesR w.heap.size (byW s.data.toList) e w' := by
  rcases dash_cases s.data.toList with ⟨h, r, hr⟩ | ⟨h, hn⟩
  · have hd : (s.extract 1 s.size).data.toList = r := by rw [Lib.extract_to_end, hr]; rfl
    have hl : (s.extract 1 s.size).size ≤ 60000 := by
      rw [← sizeB, hd]
      have := sizeB s
      rw [hr, List.length_cons] at this
      omega
    have hb : byW s.data.toList = unhex (s.extract 1 s.size).data.toList := by rw [hd, hr]; rfl
    rw [hb]
    by_cases hev : (s.extract 1 s.size).size % 2 = 0
    · exact bytesOf_even s _ w (cutDash_yes s w h) hev hl
    · rw [unhex_odd _ (by rw [sizeB]; exact hev)]
      exact bytesOf_odd s _ w (cutDash_yes s w h) hev hl
  · rw [hn]
    exact bytesOf_bare s w (cutDash_no s w h)

end Go.Proofs.YtcpnbkgkknlocaaDoor
