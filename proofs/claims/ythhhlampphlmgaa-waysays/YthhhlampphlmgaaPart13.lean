/-
  Chapter 10: WaySays' walk.
-/
import Derived.Test.YthhhlampphlmgaaPart12
import Derived.Deep.AppendLies
import Derived.Deep.RegionHeld3
import Derived.Deep.DrawnRows
namespace Go.Proofs.Ythhhlampphlmgaa
open Go.RowKit
set_option linter.unusedVariables false
set_option linter.unusedSimpArgs false
attribute [local go_sem ↓] Go.wp_at_zero Go.wp_at_succ

theorem entersCloneM : ∀ args w, (callFunc 12 args).run Try.prog w = .ok (.enter 12 args) w := enters_of Try.func12 (by kernel_rfl) rfl

theorem newC {W : World} {c : Array Value} {T : TypeId} {l : List Value} (h : c.toList = l) : ∀ j u, l[j]? = some u → (W.alloc (.cells c T)).cell? ((⟨W.heap.size, 0, none⟩ : Addr).add j) = some u := by
  intro j u hj
  subst h
  rw [Addr.add_lit, Nat.zero_add]
  exact cellB (by rw [heap_alloc_eq, if_pos rfl]) j u (by simpa using hj)

theorem newD {W w' : World} {c : Array Value} {T : TypeId} {l : List Value} (hb : Below (W.alloc (.cells c T)).heap.size (W.alloc (.cells c T)) w') (h : c.toList = l) : ∀ j u, l[j]? = some u → w'.cell? ((⟨W.heap.size, 0, none⟩ : Addr).add j) = some u := by
  intro j u hj
  subst h
  rw [Addr.add_lit, Nat.zero_add]
  exact cellB (blkB (o := .cells c T) (by rw [heap_alloc_eq, if_pos rfl]) hb) j u (by simpa using hj)

/-- what the walk keeps of the memory behind its first calls -/
structure WsIn (w V : World) (gx : Nat) (y x : MMl) (LS LT : List Ml) (L1 L2 : List MMl) (p1 p2 : Option Addr) : Prop where
  hB : Below w.heap.size w V
  hm : V.heap[w.heap.size]? = some (.cells #[.int .i64 y.m.f, .int .i64 y.m.t, .int .i64 y.m.k, .int .i64 y.m.h.F, .int .i64 y.m.h.Q, .int .i64 y.m.h.T, .int .i64 y.m.h.L, .int .i64 y.m.h.B, .int .i64 y.m.h.K, .int .i64 y.m.id, .slice y.da y.m.d.length y.dc, .int .i64 y.m.n, .int .i64 y.m.y] 34 (0, 0))
  hx : V.heap[gx]? = some (.cells #[.int .i64 x.m.f, .int .i64 x.m.t, .int .i64 x.m.k, .int .i64 x.m.h.F, .int .i64 x.m.h.Q, .int .i64 x.m.h.T, .int .i64 x.m.h.L, .int .i64 x.m.h.B, .int .i64 x.m.h.K, .int .i64 x.m.id, .slice x.da x.m.d.length x.dc, .int .i64 x.m.n, .int .i64 x.m.y] 34 (0, 0))
  h1 : LstIn V LS L1 p1
  h2 : LstIn V LT L2 p2
  hi : MailIn V x

theorem WsIn.below {w V U : World} {gx : Nat} {y x : MMl} {LS LT : List Ml} {L1 L2 : List MMl} {p1 p2 : Option Addr} (h : WsIn w V gx y x LS LT L1 L2 p1 p2) (hb : Below V.heap.size V U) : WsIn w U gx y x LS LT L1 L2 p1 p2 :=
  ⟨h.hB.trans (hb.mono h.hB.size), blkB h.hm hb, blkB h.hx hb, h.h1.below hb, h.h2.below hb, h.hi.below hb⟩

/-- the given lists and the mail -/
structure WsAt (w : World) (a : Option Addr) (l : List MMl) (y : MMl) (b : Option Addr) (o : List MMl) : Prop where
  hl : Lies w a (mailCells l)
  ha : ∀ x ∈ l, MailIn w x ∧ MlOk x
  hy : MailIn w y
  oy : MlOk y
  ho : Lies w b (mailCells o)
  hao : ∀ x ∈ o, MailIn w x ∧ MlOk x

theorem WsAt.below {w V : World} {a : Option Addr} {l : List MMl} {y : MMl} {b : Option Addr} {o : List MMl} (h : WsAt w a l y b o) (hb : Below w.heap.size w V) : WsAt V a l y b o :=
  ⟨h.hl.below hb (Nat.le_refl _), fun x hx => ⟨(h.ha x hx).1.below hb, (h.ha x hx).2⟩, h.hy.below hb, h.oy, h.ho.below hb (Nat.le_refl _), fun x hx => ⟨(h.hao x hx).1.below hb, (h.hao x hx).2⟩⟩

theorem WsAt.lst {w : World} {a : Option Addr} {l : List MMl} {y : MMl} {b : Option Addr} {o : List MMl} (h : WsAt w a l y b o) : LstIn w (l.map MMl.m) l a := ⟨rfl, h.hl, fun x hx => ⟨(h.ha x hx).1, (h.ha x hx).2.2⟩⟩
theorem WsAt.lsto {w : World} {a : Option Addr} {l : List MMl} {y : MMl} {b : Option Addr} {o : List MMl} (h : WsAt w a l y b o) : LstIn w (o.map MMl.m) o b := ⟨rfl, h.ho, fun x hx => ⟨(h.hao x hx).1, (h.hao x hx).2.2⟩⟩

set_option maxHeartbeats 16000000 in
set_option maxRecDepth 8000 in
theorem W_waySays (a : Option Addr) (l : List MMl) (c : Nat) (y : MMl) (k : Int) (tw : Bool) (b : Option Addr) (o : List MMl) (d : Nat) (w : World) (hat : WsAt w a l y b o) (hc : l.length ≤ c) (hm : l.length ≤ maxLen) (hd : o.length ≤ d) (hmo : o.length ≤ maxLen) (hk : I64 k) :
    Calls Try.prog 3 #[.slice a l.length c, .agg #[.int .i64 y.m.f, .int .i64 y.m.t, .int .i64 y.m.k, .int .i64 y.m.h.F, .int .i64 y.m.h.Q, .int .i64 y.m.h.T, .int .i64 y.m.h.L, .int .i64 y.m.h.B, .int .i64 y.m.h.K, .int .i64 y.m.id, .slice y.da y.m.d.length y.dc, .int .i64 y.m.n, .int .i64 y.m.y], .int .i64 k, .bool tw, .slice b o.length d] w fun e w' => e = .returned (.bool true) ∧ Below w.heap.size w w' := by
  obtain ⟨i0, hii, hz0, hz1, hz2⟩ := info_parts infoMl
  obtain ⟨W, hW⟩ : ∃ W, w.alloc (.cells #[.int .i64 y.m.f, .int .i64 y.m.t, .int .i64 y.m.k, .int .i64 y.m.h.F, .int .i64 y.m.h.Q, .int .i64 y.m.h.T, .int .i64 y.m.h.L, .int .i64 y.m.h.B, .int .i64 y.m.h.K, .int .i64 y.m.id, .slice y.da y.m.d.length y.dc, .int .i64 y.m.n, .int .i64 y.m.y] 34) = W := ⟨_, rfl⟩
  have hB : Below w.heap.size w W := by rw [← hW]; exact (Below.refl _ _).alloc (Nat.le_refl _) _
  have hbk : W.heap[w.heap.size]? = some (.cells #[.int .i64 y.m.f, .int .i64 y.m.t, .int .i64 y.m.k, .int .i64 y.m.h.F, .int .i64 y.m.h.Q, .int .i64 y.m.h.T, .int .i64 y.m.h.L, .int .i64 y.m.h.B, .int .i64 y.m.h.K, .int .i64 y.m.id, .slice y.da y.m.d.length y.dc, .int .i64 y.m.n, .int .i64 y.m.y] 34 (0, 0)) := by rw [← hW, heap_alloc_eq, if_pos rfl]
  have atW := hat.below hB
  have hS := send_uni a l c y W atW.hl atW.ha hc hm atW.hy atW.oy
  obtain ⟨n, hn⟩ : ∃ n, l.length = n := ⟨_, rfl⟩
  obtain ⟨no, hno⟩ : ∃ no, o.length = no := ⟨_, rfl⟩
  obtain ⟨lm, hlm⟩ : ∃ lm, l.map MMl.m = lm := ⟨_, rfl⟩
  have hln : lm.length = n := by rw [← hlm, List.length_map, hn]
  have HN := Shut.mk (And.intro hn (And.intro hno (And.intro hlm (And.intro hln hk))))
  have AT := Shut.mk hat
  obtain ⟨n1, hn1⟩ : ∃ n1, (sendLs lm y.m).length = n1 := ⟨_, rfl⟩
  obtain ⟨zs, hzs⟩ : ∃ zs, sendCode lm y.m = zs := ⟨_, rfl⟩
  rw [hlm, hn1, hzs, hn] at hS
  have HW := Shut.mk hW
  rw [hn] at hc hm ⊢
  rw [hno] at hd hmo ⊢
  have S1 := Shut.mk (And.intro hn1 hzs)
  obtain ⟨q0, q1, q2, q3, q4, q5, q6, q7, q8, q9, q10, q11, q12⟩ := mlBox hbk
  clear hW hn hno hlm hln hk hat atW hn1 hzs
  go_enter Try.func3, Try.ntmps3
  go_upto_region 1 with fail
  rw [HW.out]
  clear HW
  go_wp2_with fail
  refine hS.mono ?_
  rintro e W1 ⟨L1, p1, c1, rfl, H1⟩
  have hB1 := hB.trans (H1.out.2.mono hB.size)
  have hbk1 := blkB hbk H1.out.2
  clear hS hB hbk q0 q1 q2 q3 q4 q5 q6 q7 q8 q9 q10 q11 q12
  have at1 := AT.out.below hB1
  have hT := take_uni a l c k tw W1 at1.hl at1.ha (by rw [HN.out.1]; exact hc) (by rw [HN.out.1]; exact hm)
  obtain ⟨n2, hn2⟩ : ∃ n2, (takeLs lm k tw).length = n2 := ⟨_, rfl⟩
  obtain ⟨zt, hzt⟩ : ∃ zt, takeCode lm k = zt := ⟨_, rfl⟩
  rw [HN.out.2.2.1, hn2, hzt, HN.out.1] at hT
  have S2 := Shut.mk (And.intro hn2 hzt)
  clear at1 hn2 hzt
  go_wp2_with fail
  refine hT.mono ?_
  rintro e W2 ⟨L2, p2, c2, x, rfl, H2⟩
  have hB2 := hB1.trans (H2.out.2.2.2.2.mono hB1.size)
  have hbk2 := blkB hbk1 H2.out.2.2.2.2
  have K1 := H1.out.1.below H2.out.2.2.2.2
  clear hT hB1 hbk1 H1
  go_upto_region 3 with fail
  obtain ⟨W3, hW3⟩ : ∃ W3, W2.alloc (.cells #[.int .i64 x.m.f, .int .i64 x.m.t, .int .i64 x.m.k, .int .i64 x.m.h.F, .int .i64 x.m.h.Q, .int .i64 x.m.h.T, .int .i64 x.m.h.L, .int .i64 x.m.h.B, .int .i64 x.m.h.K, .int .i64 x.m.id, .slice x.da x.m.d.length x.dc, .int .i64 x.m.n, .int .i64 x.m.y] 34) = W3 := ⟨_, rfl⟩
  rw [hW3]
  have hb3 : Below W2.heap.size W2 W3 := by rw [← hW3]; exact (Below.refl _ _).alloc (Nat.le_refl _) _
  have h23 : W3.heap[W2.heap.size]? = some (.cells #[.int .i64 x.m.f, .int .i64 x.m.t, .int .i64 x.m.k, .int .i64 x.m.h.F, .int .i64 x.m.h.Q, .int .i64 x.m.h.T, .int .i64 x.m.h.L, .int .i64 x.m.h.B, .int .i64 x.m.h.K, .int .i64 x.m.id, .slice x.da x.m.d.length x.dc, .int .i64 x.m.n, .int .i64 x.m.y] 34 (0, 0)) := by rw [← hW3, heap_alloc_eq, if_pos rfl]
  have F3 : WsIn w W3 W2.heap.size y x (sendLs lm y.m) (takeLs lm k tw) L1 L2 p1 p2 := ⟨hB2.trans (hb3.mono hB2.size), blkB hbk2 hb3, h23, K1.below hb3, H2.out.1.below hb3, H2.out.2.2.1.below hb3⟩
  have XF : Shut (x.m = takeM lm k ∧ MlShort x) := ⟨H2.out.2.1, H2.out.2.2.2.1⟩
  generalize W2.heap.size = gx at *
  clear hW3 hb3 h23 hB2 hbk2 K1 H2
  obtain ⟨wz, hwz⟩ : ∃ wz, wyCode lm = wz := ⟨_, rfl⟩
  have SZ : Shut (wyCode lm = wz ∧ zs = (if wz ≠ 0 then wz else y.m.code) ∧ zt = (if wz ≠ 0 then wz else if k < 0 ∨ (n : Int) ≤ k then 5 else 0)) := ⟨hwz, by rw [← S1.out.2, sendCode, hwz], by rw [← S2.out.2, takeCode, hwz, HN.out.2.2.2.1]⟩
  have at3 := AT.out.below F3.hB
  have hC := refCheckMail_any a l c W3 at3.hl (fun x hx => (at3.ha x hx).2) (by rw [HN.out.1]; exact hc) (by rw [HN.out.1]; exact hm)
  rw [HN.out.2.2.1, hwz, HN.out.1] at hC
  clear hwz at3
  go_wp2_with fail
  refine hC.mono ?_
  rintro e W4 ⟨rfl, hb⟩
  have F4 := F3.below hb
  clear hC hb F3
  go_wp2_with fail
  refine (posted_any W4).mono ?_
  rintro e W5 ⟨rfl, hb⟩
  have F5 := F4.below hb
  clear hb F4
  have at5 := AT.out.below F5.hB
  have hC := wCheck_any a l c W5 at5.hl (fun x hx => (at5.ha x hx).2) (by rw [HN.out.1]; exact hc) (by rw [HN.out.1]; exact hm)
  rw [HN.out.2.2.1, SZ.out.1, HN.out.1] at hC
  have hzz : (wz != wz) = false := by simp
  clear at5
  go_wp2_with fail
  refine hC.mono ?_
  rintro e W6 ⟨rfl, hb⟩
  have F6 := F5.below hb
  clear hC hb F5
  obtain ⟨s, hs⟩ : ∃ s, decide (lm = o.map MMl.m) = s := ⟨_, rfl⟩
  have at6 := AT.out.below F6.hB
  have hSm := waySame_lst a b n no c d lm (o.map MMl.m) l o W6 (by rw [← HN.out.2.2.1]; exact at6.lst) at6.lsto HN.out.2.2.2.1 (by rw [List.length_map, HN.out.2.1]) hm hmo hs
  have hss : (s != s) = false := by simp
  clear at6
  go_wp2_with fail
  refine hSm.mono ?_
  rintro e W7 ⟨rfl, hb⟩
  have F7 := F6.below hb
  clear hSm hb F6
  have at7 := AT.out.below F7.hB
  have hSm := refSame_lst a b n no c d lm (o.map MMl.m) l o W7 (by rw [← HN.out.2.2.1]; exact at7.lst) at7.lsto HN.out.2.2.2.1 (by rw [List.length_map, HN.out.2.1]) hm hmo hs
  clear at7 hs
  go_wp2_with fail
  refine hSm.mono ?_
  rintro e V0 ⟨rfl, hb⟩
  have F0 := Shut.mk (F7.below hb)
  clear hSm hb F7
  -- worse
  go_upto_if 55 with fail
  go_cut [17] from 20 (fun s17 wc => s17 = .int .i64 zs ∧ Shut (WsIn w wc gx y x (sendLs lm y.m) (takeLs lm k tw) L1 L2 p1 p2))
  case first =>
    by_cases hw0 : wz = 0
    · have hzs : zs = y.m.code := by rw [SZ.out.2.1, if_neg (by simp [hw0])]
      subst hw0
      have F := F0.out
      obtain ⟨q0, q1, q2, q3, q4, q5, q6, q7, q8, q9, q10, q11, q12⟩ := mlBox F.hm
      obtain ⟨Va, hVa⟩ : ∃ Va, V0.alloc (.cells #[.int .i64 y.m.f, .int .i64 y.m.t, .int .i64 y.m.k, .int .i64 y.m.h.F, .int .i64 y.m.h.Q, .int .i64 y.m.h.T, .int .i64 y.m.h.L, .int .i64 y.m.h.B, .int .i64 y.m.h.K, .int .i64 y.m.id, .slice y.da y.m.d.length y.dc, .int .i64 y.m.n, .int .i64 y.m.y] 34) = Va := ⟨_, rfl⟩
      have hba : Below V0.heap.size V0 Va := by rw [← hVa]; exact (Below.refl _ _).alloc (Nat.le_refl _) _
      have haa : Va.heap[V0.heap.size]? = some (.cells #[.int .i64 y.m.f, .int .i64 y.m.t, .int .i64 y.m.k, .int .i64 y.m.h.F, .int .i64 y.m.h.Q, .int .i64 y.m.h.T, .int .i64 y.m.h.L, .int .i64 y.m.h.B, .int .i64 y.m.h.K, .int .i64 y.m.id, .slice y.da y.m.d.length y.dc, .int .i64 y.m.n, .int .i64 y.m.y] 34 (0, 0)) := by rw [← hVa, heap_alloc_eq, if_pos rfl]
      have hC : Calls Try.prog 7 #[.slice (some ⟨V0.heap.size, 0, none⟩) 1 1] Va fun e w' => e = .returned (.int .i64 zs) ∧ Below Va.heap.size Va w' := by
        have h := refCheckMail_any (some ⟨V0.heap.size, 0, none⟩) [y] 1 Va (oneMail haa) (fun z hz => by (obtain rfl : z = y := by simpa using hz); exact AT.out.oy) (by simp) (by show 1 ≤ maxLen; unfold maxLen; omega)
        have e : wyCode ([y].map MMl.m) = zs := by rw [hzs]; exact wy_one y.m
        rw [e] at h
        exact h
      have HV := Shut.mk hVa
      have Fa := F.below hba
      clear hVa hba haa F hzs SZ
      go_wp2_with fail
      rw [HV.out]
      refine hC.mono ?_
      rintro e Vb ⟨rfl, hb⟩
      have R := Shut.mk (Fa.below hb)
      clear hC hb Fa HV q0 q1 q2 q3 q4 q5 q6 q7 q8 q9 q10 q11 q12
      go_wp2
      go_meet
      exact ⟨rfl, R⟩
    · have hzs : zs = wz := by rw [SZ.out.2.1, if_pos hw0]
      have bz : (wz == 0) = false := by simpa using hw0
      subst hzs
      clear hw0
      go_wp2
      go_meet
      exact ⟨rfl, F0⟩
  obtain ⟨rfl, FC⟩ := hcut
  clear F0
  -- want
  go_upto_if 62 with fail
  obtain ⟨nw, hnw⟩ : ∃ nw, (sendL lm y.m).length = nw := ⟨_, rfl⟩
  have HNW := Shut.mk hnw
  clear hnw
  obtain ⟨U, hU⟩ : ∃ U, U = wc := ⟨_, rfl⟩
  subst hU
  go_cut [18] from 20 (fun s18 wd => ∃ LW pw cw, s18 = .slice pw nw cw ∧ Shut (LstIn wd (sendL lm y.m) LW pw ∧ WsIn w wd gx y x (sendLs lm y.m) (takeLs lm k tw) L1 L2 p1 p2))
  case first =>
    by_cases hlt : n < 40
    · obtain rfl : nw = n + 1 := by rw [← HNW.out, sendL, if_pos (by rw [HN.out.2.2.2.1]; exact hlt), List.length_append, HN.out.2.2.2.1]; rfl
      have F := FC.out
      have cF : ∀ u : World, Below U.heap.size U u → WsIn w u gx y x (sendLs lm y.m) (takeLs lm k tw) L1 L2 p1 p2 := fun u hu => F.below hu
      have hCl : ∀ u : World, Below U.heap.size U u → Calls Try.prog 12 #[.slice a n c] u fun e w' => ∃ v, e = .returned v ∧ ((∃ q cq, v = .slice q n cq ∧ w'.ownsRow U.heap.size 34 13 (.slice q n cq) n (mailCells l)) ∧ Below U.heap.size U w' ∧ Below u.heap.size u w') := fun u hu => by
        have atu := AT.out.below (F.below hu).hB
        refine (cloneM a n c (mailCells l) u (by rw [mailCells_length, HN.out.1]; omega) (mailCells_one l) (by omega) atu.hl).mono ?_
        rintro e w' ⟨q, cq, rfl, HO⟩
        exact ⟨_, rfl, ⟨q, cq, rfl, own_low HO.out.1 hu.size⟩, hu.trans (HO.out.2.2.2.mono hu.size), HO.out.2.2.2⟩
      have honeY : ∀ u ∈ ([.int .i64 y.m.f, .int .i64 y.m.t, .int .i64 y.m.k, .int .i64 y.m.h.F, .int .i64 y.m.h.Q, .int .i64 y.m.h.T, .int .i64 y.m.h.L, .int .i64 y.m.h.B, .int .i64 y.m.h.K, .int .i64 y.m.id, .slice y.da y.m.d.length y.dc, .int .i64 y.m.n, .int .i64 y.m.y] : List Value), u.oneCell' = true := fun u hu => List.all_eq_true.1 (show List.all [.int .i64 y.m.f, .int .i64 y.m.t, .int .i64 y.m.k, .int .i64 y.m.h.F, .int .i64 y.m.h.Q, .int .i64 y.m.h.T, .int .i64 y.m.h.L, .int .i64 y.m.h.B, .int .i64 y.m.h.K, .int .i64 y.m.id, .slice y.da y.m.d.length y.dc, .int .i64 y.m.n, .int .i64 y.m.y] (fun v => v.oneCell') = true from rfl) u hu
      obtain ⟨r0, r1, r2, r3, r4, r5, r6, r7, r8, r9, r10, r11, r12⟩ := mlBox (show U.drew.heap[w.heap.size]? = _ from F.hm)
      have FU := Shut.mk F
      clear F cF
      go_upto_region 11 with fail
      go_region_law (first
        | (refine step_call1 entersCloneM rfl (.tmp 63) 22 rfl _ rfl (hCl _ (by first | exact (Below.refl _ _).drew | exact ((Below.refl _ _).drew).alloc (Nat.le_refl _) _)) ?_; rintro _ wk ⟨⟨q, cq, rfl, hown⟩, hbk, hbk'⟩; obtain ⟨q0, q1, q2, q3, q4, q5, q6, q7, q8, q9, q10, q11, q12⟩ := mlBox (FU.out.below hbk).hm)
        | (refine step_append_lies _ rfl (.tmp 64) (.tmp 66) 22 rfl U.heap.size 34 i0 (.agg #[.int .i64 0, .int .i64 0, .int .i64 0, .int .i64 0, .int .i64 0, .int .i64 0, .int .i64 0, .int .i64 0, .int .i64 0, .int .i64 0, .slice none 0 0, .int .i64 0, .int .i64 0]) 13 120 Try.underlying22 hii hz0 hz1 hz2 rfl (by decide) (.slice q n cq) n (mailCells l) (by simp [Act.eval, Act.put]) (hown.alloc _) ⟨_, 0, none⟩ 1 1 [.int .i64 y.m.f, .int .i64 y.m.t, .int .i64 y.m.k, .int .i64 y.m.h.F, .int .i64 y.m.h.Q, .int .i64 y.m.h.T, .int .i64 y.m.h.L, .int .i64 y.m.h.B, .int .i64 y.m.h.K, .int .i64 y.m.id, .slice y.da y.m.d.length y.dc, .int .i64 y.m.n, .int .i64 y.m.y] (by simp [Act.eval, Act.put]; first | rfl | done) rfl (newC rfl) honeY Nat.one_pos (by unfold maxLen; omega) (by omega) (by have := hbk.size; simp; omega) _ rfl ?_; intro g cap w4 hown4 hgrow4 hat4 hlt4)
        | (refine step_append_lies _ rfl (.tmp 64) (.tmp 66) 22 rfl U.heap.size 34 i0 (.agg #[.int .i64 0, .int .i64 0, .int .i64 0, .int .i64 0, .int .i64 0, .int .i64 0, .int .i64 0, .int .i64 0, .int .i64 0, .int .i64 0, .slice none 0 0, .int .i64 0, .int .i64 0]) 13 120 Try.underlying22 hii hz0 hz1 hz2 rfl (by decide) (.slice q n cq) n (mailCells l) (by simp [Act.eval, Act.put]) hown ⟨U.heap.size, 0, none⟩ 1 1 [.int .i64 y.m.f, .int .i64 y.m.t, .int .i64 y.m.k, .int .i64 y.m.h.F, .int .i64 y.m.h.Q, .int .i64 y.m.h.T, .int .i64 y.m.h.L, .int .i64 y.m.h.B, .int .i64 y.m.h.K, .int .i64 y.m.id, .slice y.da y.m.d.length y.dc, .int .i64 y.m.n, .int .i64 y.m.y] (by simp [Act.eval, Act.put]; first | rfl | done) rfl (newD (W := U.drew) hbk' rfl) honeY Nat.one_pos (by unfold maxLen; omega) (by omega) hbk.size _ rfl ?_; intro g cap w4 hown4 hgrow4 hat4 hlt4))
      all_goals
        have hbU : Below U.heap.size U w4 := by
          first
            | exact (hbk.alloc hbk.size _).grown hgrow4 (by have := hbk.size; simp; omega) (fun k hk => (hown.lt k hk).1)
            | exact hbk.grown hgrow4 hbk.size (fun k hk => (hown.lt k hk).1)
        have R : Shut (LstIn w4 (sendL lm y.m) (l ++ [y]) (some ⟨g, 0, none⟩) ∧ WsIn w w4 gx y x (sendLs lm y.m) (takeLs lm k tw) L1 L2 p1 p2) := by
          have atU := AT.out.below (FU.out.below hbU).hB
          refine ⟨⟨?_, ?_, ?_⟩, FU.out.below hbU⟩
          · rw [sendL, if_pos (by rw [HN.out.2.2.2.1]; exact hlt), List.map_append, HN.out.2.2.1]; rfl
          · obtain ⟨_, _, e1, e2, _⟩ := own_gen hown4
            simp only [Value.slice.injEq] at e1
            obtain ⟨rfl, _, _⟩ := e1
            rw [mailCells_append]
            have e : mailCells [y] = y.cells := by simp [mailCells]
            rw [e]
            exact e2
          · intro z hz
            rcases List.mem_append.1 hz with hz | hz
            · exact ⟨(atU.ha z hz).1, (atU.ha z hz).2.2⟩
            · obtain rfl : z = y := by simpa using hz
              exact ⟨atU.hy, atU.oy.2⟩
        clear hown4 hgrow4 hat4 hlt4 hown hbk hbk' hbU
        go_wp2
        go_meet
        exact ⟨l ++ [y], some ⟨g, 0, none⟩, cap, rfl, R⟩
    · obtain rfl : nw = n := by rw [← HNW.out, sendL, if_neg (by rw [HN.out.2.2.2.1]; exact hlt), HN.out.2.2.2.1]
      have R : Shut (LstIn U (sendL lm y.m) l a ∧ WsIn w U gx y x (sendLs lm y.m) (takeLs lm k tw) L1 L2 p1 p2) := ⟨by
        rw [sendL, if_neg (by rw [HN.out.2.2.2.1]; exact hlt), ← HN.out.2.2.1]
        exact (AT.out.below FC.out.hB).lst, FC.out⟩
      go_wp2
      go_meet
      exact ⟨l, a, c, rfl, R⟩
  obtain ⟨LW, pw, cw, rfl, FW⟩ := hcut
  clear FC
  -- is what Send answers right?
  go_upto_region 12 with fail
  obtain ⟨U, hU⟩ : ∃ U, U = wc := ⟨_, rfl⟩
  subst hU
  go_cut [89] from 20 (fun s89 wd => s89 = .bool false ∧ Shut (WsIn w wd gx y x (sendLs lm y.m) (takeLs lm k tw) L1 L2 p1 p2))
  case first =>
    have hzz : (zs != zs) = false := by simp
    by_cases hz0 : zs = 0
    · have hsl : sendLs lm y.m = sendL lm y.m := by rw [sendLs, if_pos (by rw [S1.out.2]; exact hz0)]
      have hnn : n1 = nw := by rw [← S1.out.1, hsl, HNW.out]
      have hsz := send_zero (S1.out.2.trans hz0)
      have hle := (wy_zero hsz.1).1
      have hnb : nw ≤ maxLen := by
        have h : nw ≤ n + 1 := by
          rw [← HNW.out, sendL]
          split
          · rw [List.length_append, HN.out.2.2.2.1]; exact Nat.le_refl _
          · rw [HN.out.2.2.2.1]; omega
        rw [HN.out.2.2.2.1] at hle
        unfold maxLen
        omega
      have h1 := FW.out.2.h1
      rw [hsl] at h1
      have hSm := refSame_lst p1 pw n1 nw c1 cw (sendL lm y.m) (sendL lm y.m) L1 LW U h1 FW.out.1 (HNW.out.trans hnn.symm) HNW.out (by rw [hnn]; exact hnb) hnb (z := true) (decide_eq_true rfl)
      have FF := Shut.mk FW.out.2
      clear hnn hsl hsz hle hnb h1 hzz
      subst hz0
      go_wp2_with fail
      refine hSm.mono ?_
      rintro e V1 ⟨rfl, hb⟩
      have R := Shut.mk (FF.out.below hb)
      clear hSm hb
      go_wp2
      go_meet
      exact ⟨rfl, R⟩
    · have hn0 : n1 = 0 := by rw [← S1.out.1, sendLs, if_neg (by rw [S1.out.2]; exact hz0)]; rfl
      have bz : (zs != 0) = true := by simpa using hz0
      have bz2 : (zs == 0) = false := by simpa using hz0
      have R := Shut.mk FW.out.2
      subst hn0
      clear hz0
      go_wp2
      go_meet
      exact ⟨rfl, R⟩
  obtain ⟨rfl, FR⟩ := hcut
  clear FW
  -- is what is asked for there?
  go_upto_region 14 with fail
  obtain ⟨U, hU⟩ : ∃ U, U = wc := ⟨_, rfl⟩
  subst hU
  go_cut [101] from 20 (fun s101 wd => s101 = .bool (decide (wz = 0 ∧ (k < 0 ∨ (n : Int) ≤ k))) ∧ wd = U)
  case first =>
    by_cases hz0 : wz = 0
    · have bz : (wz == 0) = true := by simpa using hz0
      by_cases hk0 : k < 0
      · have hd : decide (wz = 0 ∧ (k < 0 ∨ (n : Int) ≤ k)) = true := decide_eq_true ⟨hz0, Or.inl hk0⟩
        have HD := Shut.mk hd
        clear hd hz0
        go_wp2
        go_meet
        exact ⟨by rw [HD.out], rfl⟩
      · by_cases hk1 : (n : Int) ≤ k
        · have HD := Shut.mk (decide_eq_true (p := wz = 0 ∧ (k < 0 ∨ (n : Int) ≤ k)) ⟨hz0, Or.inr hk1⟩)
          have hk2 : k ≥ (n : Int) := hk1
          clear hz0
          go_wp2
          go_meet
          exact ⟨by rw [HD.out], rfl⟩
        · have HD := Shut.mk (decide_eq_false (p := wz = 0 ∧ (k < 0 ∨ (n : Int) ≤ k)) (fun h => h.2.elim hk0 hk1))
          have hk2 : ¬ k ≥ (n : Int) := hk1
          clear hz0
          go_wp2
          go_meet
          exact ⟨by rw [HD.out], rfl⟩
    · have bz : (wz == 0) = false := by simpa using hz0
      have HD := Shut.mk (decide_eq_false (p := wz = 0 ∧ (k < 0 ∨ (n : Int) ≤ k)) (fun h => hz0 h.1))
      clear hz0
      go_wp2
      go_meet
      exact ⟨by rw [HD.out], rfl⟩
  obtain ⟨rfl, rfl⟩ := hcut
  obtain ⟨U4, hU4⟩ : ∃ U4, U4 = wc := ⟨wc, rfl⟩
  subst hU4
  have bad : zt ≠ 0 → n2 = 0 ∧ x.m = ml0 := fun h => ⟨by rw [← S2.out.1, takeLs, if_neg (by rw [S2.out.2]; exact h)]; rfl, by rw [XF.out.1, takeM, if_neg (by rw [S2.out.2]; exact h)]⟩
  have BAD := Shut.mk bad
  clear bad
  have F := FR.out
  obtain ⟨q0, q1, q2, q3, q4, q5, q6, q7, q8, q9, q10, q11, q12⟩ := mlBox F.hx
  obtain ⟨Vx, hVx⟩ : ∃ Vx, (U4.alloc (.cells #[.int .i64 x.m.f, .int .i64 x.m.t, .int .i64 x.m.k, .int .i64 x.m.h.F, .int .i64 x.m.h.Q, .int .i64 x.m.h.T, .int .i64 x.m.h.L, .int .i64 x.m.h.B, .int .i64 x.m.h.K, .int .i64 x.m.id, .slice x.da x.m.d.length x.dc, .int .i64 x.m.n, .int .i64 x.m.y] 34)).alloc (.cells #[.int .i64 0, .int .i64 0, .int .i64 0, .int .i64 0, .int .i64 0, .int .i64 0, .int .i64 0, .int .i64 0, .int .i64 0, .int .i64 0, .slice none 0 0, .int .i64 0, .int .i64 0] 34) = Vx := ⟨_, rfl⟩
  have hbx : Below U4.heap.size U4 Vx := by rw [← hVx]; exact ((Below.refl _ _).alloc (Nat.le_refl _) _).alloc (by simp) _
  have hx1 : Vx.heap[U4.heap.size]? = some (.cells #[.int .i64 x.m.f, .int .i64 x.m.t, .int .i64 x.m.k, .int .i64 x.m.h.F, .int .i64 x.m.h.Q, .int .i64 x.m.h.T, .int .i64 x.m.h.L, .int .i64 x.m.h.B, .int .i64 x.m.h.K, .int .i64 x.m.id, .slice x.da x.m.d.length x.dc, .int .i64 x.m.n, .int .i64 x.m.y] 34 (0, 0)) := by rw [← hVx, heap_alloc_eq, if_neg (by simp), heap_alloc_eq, if_pos rfl]
  have hx2 : Vx.heap[U4.heap.size + 1]? = some (.cells #[.int .i64 0, .int .i64 0, .int .i64 0, .int .i64 0, .int .i64 0, .int .i64 0, .int .i64 0, .int .i64 0, .int .i64 0, .int .i64 0, .slice none 0 0, .int .i64 0, .int .i64 0] 34 (0, 0)) := by rw [← hVx, heap_alloc_eq, if_pos (by simp)]
  have hE : Shut (zt ≠ 0 → Calls Try.prog 11 #[.slice (some ⟨U4.heap.size, 0, none⟩) 1 1, .slice (some ⟨U4.heap.size + 1, 0, none⟩) 1 1] Vx fun e w' => e = .returned (.bool true) ∧ Below Vx.heap.size Vx w') := ⟨fun h => by
    have hl1 : LstIn Vx [x.m] [x] (some ⟨U4.heap.size, 0, none⟩) := ⟨rfl, oneMail hx1, fun z hz => by (obtain rfl : z = x := by simpa using hz); exact ⟨F.hi.below hbx, XF.out.2⟩⟩
    have hl2 : LstIn Vx [ml0] [⟨ml0, none, 0⟩] (some ⟨U4.heap.size + 1, 0, none⟩) := ⟨rfl, oneMail (y := ⟨ml0, none, 0⟩) hx2, fun z hz => by (obtain rfl : z = ⟨ml0, none, 0⟩ := by simpa using hz); exact ⟨emptyIn _ rfl, Nat.zero_le _⟩⟩
    exact refSame_lst _ _ 1 1 1 1 [x.m] [ml0] _ _ Vx hl1 hl2 rfl rfl (by unfold maxLen; omega) (by unfold maxLen; omega) (decide_eq_true (by rw [(BAD.out h).2]))⟩
  have hFx := F.hB.trans (hbx.mono F.hB.size)
  have HVx := Shut.mk hVx
  clear hVx hbx hx1 hx2
  by_cases hb : wz = 0 ∧ (k < 0 ∨ (n : Int) ≤ k)
  · have hzt : zt = 5 := by rw [SZ.out.2.2, if_neg (by simp [hb.1]), if_pos hb.2]
    have hn2 := (BAD.out (by rw [hzt]; decide)).1
    have hSm := hE.out (by rw [hzt]; decide)
    rw [decide_eq_true hb]
    subst hzt
    subst hn2
    clear hb hE F
    go_wp2_with fail
    rw [HVx.out]
    refine hSm.mono ?_
    rintro e V1 ⟨rfl, hb⟩
    have hF := hFx.trans (hb.mono hFx.size)
    clear hSm hb
    go_wp2
    go_ret
    exact ⟨rfl, hF⟩
  · rw [decide_eq_false hb]
    by_cases hz0 : wz = 0
    · obtain ⟨kn, rfl⟩ : ∃ kn : Nat, k = (kn : Int) := ⟨k.toNat, by (have : ¬ (k < 0 ∨ (n : Int) ≤ k) := fun h => hb ⟨hz0, h⟩); omega⟩
      have hkn : kn < n := by (have : ¬ ((kn : Int) < 0 ∨ (n : Int) ≤ (kn : Int)) := fun h => hb ⟨hz0, h⟩); omega
      have hzt : zt = 0 := by rw [SZ.out.2.2, if_neg (by simp [hz0]), if_neg (fun h => hb ⟨hz0, h⟩)]
      have hw := wy_zero (l := lm) (by rw [SZ.out.1]; exact hz0)
      have hn40 : n ≤ 40 := by rw [← HN.out.2.2.2.1]; exact hw.1
      have hti : ((kn : Int)).toNat = kn := by simp
      have hT2 : takeLs lm (kn : Int) tw = takeL lm kn tw := by rw [takeLs, if_pos (by rw [S2.out.2]; exact hzt), hti]
      obtain ⟨z, hz⟩ : ∃ z, l[kn]? = some z := ⟨_, List.getElem?_eq_getElem (by rw [HN.out.1]; exact hkn)⟩
      have hzm : z.m = x.m := by
        rw [XF.out.1, takeM, if_pos (by rw [S2.out.2]; exact hzt), hti, ← HN.out.2.2.1, List.getElem?_map, hz]
        rfl
      have KF := Shut.mk (And.intro hT2 (And.intro hz hzm))
      have at4 := AT.out.below F.hB
      have hCl := cloneM a n c (mailCells l) U4 (by rw [mailCells_length, HN.out.1]; omega) (mailCells_one l) (by omega) at4.hl
      obtain ⟨b1, o1, rfl⟩ := AT.out.hl.some (k := 0) (by rw [mailCells_length, HN.out.1]; omega)
      have FF := Shut.mk F
      subst hz0
      subst hzt
      clear hb hE F hw hti hT2 hz hzm at4 HVx hFx BAD q0 q1 q2 q3 q4 q5 q6 q7 q8 q9 q10 q11 q12
      go_wp2_with fail
      refine hCl.mono ?_
      rintro e W8 ⟨q, cq, rfl, HO⟩
      have hb8 := HO.out.2.2.2
      have F8 := Shut.mk (FF.out.below hb8)
      clear hCl
      obtain ⟨nl, hnl⟩ : ∃ nl, (takeL lm kn tw).length = nl := ⟨_, rfl⟩
      have HNL := Shut.mk hnl
      clear hnl
      go_upto_if 122 with fail
      go_cut [19] from 20 (fun s19 wd => ∃ LL pl cl, s19 = .slice pl nl cl ∧ Shut (LstIn wd (takeL lm kn tw) LL pl ∧ WsIn w wd gx y x (sendLs lm y.m) (takeLs lm (kn : Int) tw) L1 L2 p1 p2))
      case first =>
        cases tw with
        | true =>
          obtain rfl : nl = n := by rw [← HNL.out, takeL, if_pos rfl, HN.out.2.2.2.1]
          have R : Shut (LstIn W8 (takeL lm kn true) l q ∧ WsIn w W8 gx y x (sendLs lm y.m) (takeLs lm (kn : Int) true) L1 L2 p1 p2) := ⟨by
            rw [takeL, if_pos rfl, ← HN.out.2.2.1]
            exact ⟨rfl, HO.out.2.2.1, ((AT.out.below F8.out.hB).lst).2.2⟩, F8.out⟩
          clear HO hb8
          go_wp2
          go_meet
          exact ⟨l, q, cq, rfl, R⟩
        | false =>
          obtain ⟨m', hm'⟩ : ∃ m', n = kn + 1 + m' := ⟨n - (kn + 1), by omega⟩
          obtain rfl : nl = kn + m' := by rw [← HNL.out, takeL, if_neg (by simp), List.length_eraseIdx_of_lt (by rw [HN.out.2.2.2.1]; exact hkn), HN.out.2.2.2.1]; omega
          obtain ⟨g, rfl⟩ : ∃ g, q = some ⟨g, 0, none⟩ := by
            rcases HO.out.1.2 with ⟨h0, h1⟩ | ⟨g, cap, cur, h0, _⟩
            · omega
            · simp only [Value.slice.injEq] at h0
              exact ⟨g, h0.1⟩
          have hD := delMl_any g n m' cq kn U4.heap.size (mailCells l) W8 hm' HO.out.1 (mailCells_one l)
          have hw1 : IntKind.i64.wrap ((kn : Int) + 1) = (kn : Int) + 1 := by rw [IntKind.wrap_i64]; omega
          have HG : Shut (U4.heap.size ≤ g) := ⟨(HO.out.1.lt g rfl).1⟩
          have HB8 := Shut.mk hb8
          have HM := Shut.mk hm'
          clear HO hb8 F8 hm'
          go_wp2_with fail
          refine hD.mono ?_
          rintro e W9 ⟨rfl, HD⟩
          have R : Shut (LstIn W9 (takeL lm kn false) (l.eraseIdx kn) (some ⟨g, 0, none⟩) ∧ WsIn w W9 gx y x (sendLs lm y.m) (takeLs lm (kn : Int) false) L1 L2 p1 p2) := by
            have hb9 : Below U4.heap.size U4 W9 := HB8.out.grown HD.out.2 HB8.out.size (fun k hk => by (have : g = k := by simpa using hk); have := HG.out; omega)
            have F9 := FF.out.below hb9
            refine ⟨⟨?_, ?_, fun u hu => ?_⟩, F9⟩
            · rw [takeL, if_neg (by simp), ← HN.out.2.2.1, List.eraseIdx_eq_take_drop_succ, List.eraseIdx_eq_take_drop_succ, List.map_append, List.map_take, List.map_drop]
            · rw [mailCells_erase l kn (by rw [HN.out.1]; exact hkn)]
              obtain ⟨_, _, e1, e2, _⟩ := own_gen HD.out.1
              simp only [Value.slice.injEq] at e1
              obtain ⟨rfl, _, _⟩ := e1
              exact e2
            · have h := (AT.out.below F9.hB).ha u (List.mem_of_mem_eraseIdx hu)
              exact ⟨h.1, h.2.2⟩
          clear hD HD hw1
          go_wp2
          go_meet
          exact ⟨l.eraseIdx kn, some ⟨g, 0, none⟩, cq, rfl, R⟩
      obtain ⟨LL, pl, cl, rfl, FL⟩ := hcut
      clear HO hb8 F8
      obtain ⟨U5, hU5⟩ : ∃ U5, U5 = wc := ⟨wc, rfl⟩
      subst hU5
      have hnlm : nl ≤ maxLen := by
        have h : nl ≤ n := by
          rw [← HNL.out, takeL]
          split
          · rw [HN.out.2.2.2.1]; exact Nat.le_refl _
          · rw [List.length_eraseIdx_of_lt (by rw [HN.out.2.2.2.1]; exact hkn), HN.out.2.2.2.1]; omega
        unfold maxLen
        omega
      have hn2 : n2 = nl := by rw [← S2.out.1, KF.out.1, HNL.out]
      have F5 := FL.out.2
      have cS1 : ∀ (u : World) (g : Nat), Below U5.heap.size U5 u → u.heap[g]? = some (.cells #[.int .i64 x.m.f, .int .i64 x.m.t, .int .i64 x.m.k, .int .i64 x.m.h.F, .int .i64 x.m.h.Q, .int .i64 x.m.h.T, .int .i64 x.m.h.L, .int .i64 x.m.h.B, .int .i64 x.m.h.K, .int .i64 x.m.id, .slice x.da x.m.d.length x.dc, .int .i64 x.m.n, .int .i64 x.m.y] 34 (0, 0)) → Calls Try.prog 11 #[.slice (some ⟨g, 0, none⟩) 1 1, .slice (some ⟨b1, o1 + kn * 13, none⟩) 1 (c - kn)] u fun e w' => e = .returned (.bool true) ∧ Below u.heap.size u w' := fun u g hu hg => by
        have atu := AT.out.below (F5.below hu).hB
        have hl1 : LstIn u [x.m] [x] (some ⟨g, 0, none⟩) := ⟨rfl, oneMail hg, fun v hv => by (obtain rfl : v = x := by simpa using hv); exact ⟨(F5.below hu).hi, XF.out.2⟩⟩
        have hl2 : LstIn u [z.m] [z] (some ⟨b1, o1 + kn * 13, none⟩) := ⟨rfl, by
          intro j v hv
          refine ⟨b1, o1 + kn * 13, rfl, ?_⟩
          have hj : z.cells[j]? = some v := by simpa [mailCells] using hv
          exact mails_cell ⟨atu.hl, KF.out.2.1⟩ j hj, fun v hv => by
          (obtain rfl : v = z := by simpa using hv)
          have h := atu.ha v (List.mem_of_getElem? KF.out.2.1)
          exact ⟨h.1, h.2.2⟩⟩
        exact refSame_lst _ _ 1 1 1 (c - kn) [x.m] [z.m] _ _ u hl1 hl2 rfl rfl (by unfold maxLen; omega) (by unfold maxLen; omega) (decide_eq_true (by rw [KF.out.2.2]))
      have cS2 : ∀ u : World, Below U5.heap.size U5 u → Calls Try.prog 11 #[.slice p2 n2 c2, .slice pl nl cl] u fun e w' => e = .returned (.bool true) ∧ Below u.heap.size u w' := fun u hu => by
        have h2 := (F5.below hu).h2
        rw [KF.out.1] at h2
        exact refSame_lst p2 pl n2 nl c2 cl (takeL lm kn tw) (takeL lm kn tw) L2 LL u h2 (FL.out.1.below hu) (HNL.out.trans hn2.symm) HNL.out (by rw [hn2]; exact hnlm) hnlm (decide_eq_true rfl)
      have C1 := Shut.mk cS1
      have C2 := Shut.mk cS2
      have HF := Shut.mk F5.hB
      have H5X := Shut.mk F5.hx
      obtain ⟨q0, q1, q2, q3, q4, q5, q6, q7, q8, q9, q10, q11, q12⟩ := mlBox F5.hx
      obtain ⟨r0, r1, r2, r3, r4, r5, r6, r7, r8, r9, r10, r11, r12⟩ := mlBox (show U5.drew.heap[gx]? = _ from F5.hx)
      have hw1 : IntKind.i64.wrap ((kn : Int) + 1) = (kn : Int) + 1 := by rw [IntKind.wrap_i64]; omega
      have g1 : ((kn : Int) + 1).toNat = kn + 1 := by omega
      have g2 : kn ≤ c := by omega
      have g3 : kn + 1 ≤ n := by omega
      have g4 : (kn : Int) + 1 ≤ (c : Int) := by omega
      have g5 : ¬ (c : Int) < (kn : Int) + 1 := by omega
      have g6 : kn + 1 - kn = 1 := by omega
      have g7 : ¬ c = kn := by omega
      have g8 : ¬ (kn : Int) + 1 < (kn : Int) := by omega
      have g9 : ¬ (kn : Int) < 0 := by omega
      have g10 : ¬ (kn : Int) + 1 < 0 := by omega
      have g11 : kn + 1 ≤ c := by omega
      have g12 : kn ≤ kn + 1 := by omega
      have g13 : (0 : Int) ≤ (kn : Int) := by omega
      have g14 : (kn : Int) ≤ (kn : Int) + 1 := by omega
      have g15 : (0 : Int) ≤ (kn : Int) + 1 := by omega
      have g16 : (kn : Int) + 1 ≤ (n : Int) := by omega
      clear cS1 cS2 F5 hn2 hnlm FL
      go_upto_region 21 with fail
      refine lastRegion _ _ _ _ _ _ _ _ _ _ _ _ _ _ _ _ _ _ _ _ _ _ _ _ _ _ _ _ _ _ _ _ _ _ _ _ _ _ _ _ _ _ _ _ _ _ _ _ _ _ _ _ _ _ _ _ _ _ _ _ _ _ _ _ _ _ _ _ _ _ _ _ _ _ _ _ _ _ _ _ _ _ _ _ _ _ _ _ _ _ _ _ _ _ _ _ _ _ _ _ _ _ _ _ _ _ _ _ _ _ _ _ _ _ _ _ _ _ _ _ _ _ _ _ _ _ _ _ _ _ _ _ _ _ _ _ _ _ _ _ _ _ _ _ _ _ _ _ _ _ _ _ _ _ _ _ _ _ _ _ _ _ _ _ _ _ _ _ _ hc hkn hn40 C1 C2 H5X ?_
      refine ⟨fun w' v128 v129 v130 v131 v132 v133 v134 v135 v136 v137 v138 v139 v140 v141 v142 v143 v144 hF2 => ?_⟩
      have hF := HF.out.trans (hF2.mono HF.out.size)
      go_wp2
      go_ret
      exact ⟨rfl, hF⟩
    · have hzt : zt = wz := by rw [SZ.out.2.2, if_pos hz0]
      have hn2 := (BAD.out (by rw [hzt]; exact hz0)).1
      have hSm := hE.out (by rw [hzt]; exact hz0)
      have bz : (wz != 0) = true := by simpa using hz0
      have bz2 : (wz == wz) = true := by simp
      subst hzt
      subst hn2
      clear hb hE F hz0
      go_wp2_with fail
      rw [HVx.out]
      refine hSm.mono ?_
      rintro e V1 ⟨rfl, hb⟩
      have hF := hFx.trans (hb.mono hFx.size)
      clear hSm hb
      go_wp2
      go_ret
      exact ⟨rfl, hF⟩

end Go.Proofs.Ythhhlampphlmgaa
