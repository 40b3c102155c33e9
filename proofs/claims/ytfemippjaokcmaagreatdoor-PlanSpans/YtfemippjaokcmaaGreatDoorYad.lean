/- PlanSpans, behind the checks: one sign. PlanSpans, behind the checks: a sign that says none. 'a, b := f(x), g(y)' where both calls make memory: whatever order is drawn, both values lie there, each in a box of its own. -/
import Derived.Test.YtfemippjaokcmaaGreatDoorYab
import Derived.Test.YtfemippjaokcmaaGreatDoorXac
import Derived.Test.YtfemippjaokcmaaGreatDoorXal
import Derived.Orders
import Derived.Laws.Tables
import Derived.Laws.CopyOwn
namespace Go.Proofs.YtfemippjaokcmaaGreatDoor
open Go.RowKit Go.Shelf
attribute [local go_sem] Oper.semAt_some fw0 fw1 fw2 eql33t
set_option maxRecDepth 100000 in
set_option maxHeartbeats 8000000 in
theorem sp_ge {w W : World} {T U : V.Tr} {A C : V.Ad} {z7 z8 : Nat} (hM : SpW w W T U A C z7 z8) (hT : SpT T U) (he : Ev w) (hg : V.Gm w) (y0 y1 y3 y4 y5 y6 y9 y10 y11 y12 y13 y14 y15 y16 y17 y18 y19 y20 y21 y22 y23 y24 y25 y26 y27 y28 y29 y30 y31 y32 y33 y34 y35 y36 y37 y38 y39 y40 y41 y42 y43 y44 y45 y46 y47 y48 y49 y50 y51 y52 y53 y54 y55 y56 y57 y58 y59 y60 y61 y62 y63 y64 y65 y66 y67 y68 y69 y70 y71 y72 y73 y74 y75 y76 y77 y78 y79 y80 y81 y82 y83 y84 y85 y86 y87 y88 y89 y90 y91 y92 y93 y94 y95 y96 y97 y98 y99 y100 y101 y102 y103 y104 y105 y106 y107 y108 y109 y110 y111 y112 y113 : Value) (cc : Code) (hcc : cutSd Tryz.f5.body = some cc) :
    Code.wp Tryz.prog cc (bodyPost Tryz.prog Tryz.f5 (fun e w' => e = .returned (.bool true) /\ Below w.heap.size w w')) ⟨List.toArray (y0 :: y1 :: .string ⟨#[62, 61]⟩ :: y3 :: y4 :: y5 :: y6 :: .pointer (some ⟨z7, 0, none⟩) :: .pointer (some ⟨z8, 0, none⟩) :: y9 :: y10 :: y11 :: y12 :: y13 :: y14 :: y15 :: y16 :: y17 :: y18 :: y19 :: y20 :: y21 :: y22 :: y23 :: y24 :: y25 :: y26 :: y27 :: y28 :: y29 :: y30 :: y31 :: y32 :: y33 :: y34 :: y35 :: y36 :: y37 :: y38 :: y39 :: y40 :: y41 :: y42 :: y43 :: y44 :: y45 :: y46 :: y47 :: y48 :: y49 :: y50 :: y51 :: y52 :: y53 :: y54 :: y55 :: y56 :: y57 :: y58 :: y59 :: y60 :: y61 :: y62 :: y63 :: y64 :: y65 :: y66 :: y67 :: y68 :: y69 :: y70 :: y71 :: y72 :: y73 :: y74 :: y75 :: y76 :: y77 :: y78 :: y79 :: y80 :: y81 :: y82 :: y83 :: y84 :: y85 :: y86 :: y87 :: y88 :: y89 :: y90 :: y91 :: y92 :: y93 :: y94 :: y95 :: y96 :: y97 :: y98 :: y99 :: y100 :: y101 :: y102 :: y103 :: y104 :: y105 :: y106 :: y107 :: y108 :: y109 :: y110 :: y111 :: y112 :: y113 :: []), []⟩ W := by
  obtain rfl := Option.some.inj ((show cutSd Tryz.f5.body = some _ from rfl).symm.trans hcc)
  clear hcc
  have hlU := hM.lU
  have ks := span_any ⟨#[62, 61]⟩ (k := U.k) (b := U.b) (n := U.n) (s := U.s) (pa := C.pa) (m := U.m) (pc := C.pc) (na := C.na) (q := U.q) (nc := C.nc) (w := W) (K := kyB U) (by have := ky_len hT.cU; unfold maxLen; omega) (fun W2 hb2 => V.of_ok hT.cU hT.mU (hg.later (hM.bel.trans (hb2.mono hM.bel.size)) hg.pos) ((V.Lies.later hb2 hlU).up hb2.size) (Nat.le_refl _))
  have hsp : spanF ((⟨#[62, 61]⟩ : ByteArray).data.toList) (kyB U) = (kyB U, ⟨#[]⟩, true) := by
    unfold spanF
    simp
  rw [hsp] at ks
  have f1 := hT.sf.lt
  have f2 := hT.sf.nx
  have f3 := hT.sf.e1
  have f4 := hT.sf.e2
  have f5 := empty_eq f3
  have f6 := empty_eq f4
  have kcmp0 : ∀ W2, Below W.heap.size W W2 -> Calls Tryz.prog 21 #[.agg #[.int .i64 T.k, .bool T.b, .int .i64 T.n, .string T.s, .slice A.pa T.m A.pc, .slice A.na T.q A.nc], .agg #[.int .i64 U.k, .bool U.b, .int .i64 U.n, .string U.s, .slice C.pa U.m C.pc, .slice C.na U.q C.nc]] W2 fun e w' => e = .returned (.int .i64 (V.cmpT T U)) /\ Below W2.heap.size W2 w' := fun W2 hb => V.cmp_all T U W2.heap.size W2 A C ((V.Lies.later hb hM.lT).up hb.size) ((V.Lies.later hb hM.lU).up hb.size) (Nat.le_refl _)
  have kkey0 : ∀ (W2 : World) (A1 : V.Ad), V.Lies W2.heap.size W2 T A1 -> Calls Tryz.prog 18 #[.agg #[.int .i64 T.k, .bool T.b, .int .i64 T.n, .string T.s, .slice A1.pa T.m A1.pc, .slice A1.na T.q A1.nc]] W2 fun e w' => e = .returned (.string (kyB T)) /\ Below W2.heap.size W2 w' := fun W2 A1 h => V.key_ok hT.cT hT.mT h (Nat.le_refl _)
  have KR := mkHid (ref_t hT.sT hM.lT)
  obtain ⟨kb, hkb⟩ : ∃ x, kyB U = x := ⟨_, rfl⟩
  obtain ⟨nb, hnb⟩ : ∃ x, V.nextB (kyB U) = x := ⟨_, rfl⟩
  rw [hnb] at f2 f4 f6
  rw [hkb] at f1 f3 f5 ks
  obtain ⟨ka, hka⟩ : ∃ x, kyB T = x := ⟨_, rfl⟩
  rw [hka] at f1 f2 kkey0
  obtain ⟨cc1, hcc1⟩ : ∃ x, V.cmpT T U = x := ⟨_, rfl⟩
  rw [hcc1] at kcmp0 f1 f2
  obtain ⟨x1, hx1⟩ : ∃ x, decide (cc1 < 0) = x := ⟨_, rfl⟩
  obtain ⟨x2, hx2⟩ : ∃ x, decide (cc1 <= 0) = x := ⟨_, rfl⟩
  rw [hx1] at f1
  rw [hx2] at f2
  have HX := mkHid (And.intro hx1 hx2)
  have f7 : Op.bytesLess ka.toList [] = false := V.lt8_nil_r ka.toList
  have KC := mkHid kcmp0
  have KK := mkHid kkey0
  have H0 := mkHid hM
  have HE := mkHid he
  have HG := mkHid hg
  have q70 := hM.r7
  have q80 := hM.r8
  have d0 := cell_of_row W _ 0 _ _ _ q80
  have d1 := cell_of_row W _ 1 _ _ _ q80
  have d2 := cell_of_row W _ 2 _ _ _ q80
  have d3 := cell_of_row W _ 3 _ _ _ q80
  have d4 := cell_of_row W _ 4 _ _ _ q80
  have d5 := cell_of_row W _ 5 _ _ _ q80
  clear hM hT he hg hsp hkb hnb hka hcc1 hlU hx1 hx2 kcmp0 kkey0 q70 q80
  go_wp2_with fail
  refine ks.mono ?_
  rintro e w3 ⟨rfl, hb3⟩
  obtain ⟨w4, hw4⟩ : ∃ u, w3.alloc (.cells #[.string kb, .string ⟨#[]⟩] 33) = u := ⟨_, rfl⟩
  obtain ⟨r4, hb4⟩ := alloc1 hw4
  have HW4 := mkHid hw4
  have hb04 : Below W.heap.size W w4 := hb3.trans (hb4.mono hb3.size)
  have H4 : Hid (SpW w w4 T U A C z7 z8 /\ w4.heap[w3.heap.size]? = some (.cells #[.string kb, .string ⟨#[]⟩] 33 (0, 0)) /\ Below W.heap.size W w4) := ⟨H0.out.later hb04, r4, hb04⟩
  have ka1 := awake_any w4 (HE.out.later H4.out.1.bel) (HG.out.later H4.out.1.bel HG.out.pos)
  clear ks hb3 hw4 hb4 hb04 r4 d0 d1 d2 d3 d4 d5 H0
  go_wp2_with (first | rw [HW4.out] | fail)
  obtain ⟨z9, hz9⟩ : ∃ z, w3.heap.size = z := ⟨_, rfl⟩
  rw [hz9] at H4 ⊢
  clear hz9 HW4
  refine ka1.mono ?_
  rintro e w5 ⟨rfl, hb5⟩
  have H5 : Hid (SpW w w5 T U A C z7 z8 /\ w5.heap[z9]? = some (.cells #[.string kb, .string ⟨#[]⟩] 33 (0, 0)) /\ Below W.heap.size W w5) := ⟨H4.out.1.later hb5, Below.row hb5 H4.out.2.1, H4.out.2.2.trans (hb5.mono H4.out.2.2.size)⟩
  clear ka1 hb5 H4
  go_wp2_with fail
  have q7 := H5.out.1.r7
  have q8 := H5.out.1.r8
  have kref : ∀ W2, Below w5.heap.size w5 W2 -> _ := fun W2 hb => KR.out W2 (H5.out.2.2.trans (hb.mono H5.out.2.2.size))
  have kcmp : ∀ W2, Below w5.heap.size w5 W2 -> _ := fun W2 hb => KC.out W2 (H5.out.2.2.trans (hb.mono H5.out.2.2.size))
  have kkey := KK.out
  refine any_tail (by kernel_rfl) 8 (by exact Nat.le_of_ble_eq_true rfl) (fun i => if i < 6 then i + 64 else i + 6) (mixR [(1, (RfT T))] [.agg #[.int .i64 T.k, .bool T.b, .int .i64 T.n, .string T.s, .slice A.pa T.m A.pc, .slice A.na T.q A.nc], undef, .string ka, .agg #[.int .i64 T.k, .bool T.b, .int .i64 T.n, .string T.s, .slice A.pa T.m A.pc, .slice A.na T.q A.nc], .agg #[.int .i64 U.k, .bool U.b, .int .i64 U.n, .string U.s, .slice C.pa U.m C.pc, .slice C.na U.q C.nc], .int .i64 cc1, .string ka, .int .i64 cc1]) (by kernel_rfl) (by kernel_rfl) (by kernel_rfl) (by kernel_rfl) (mixR_later _ _ (stab_cons (RfT.later) (stab_nil))) ?step ?post
  case step =>
    intro iq hiq a W hrest hb hk
    have hp7 : a.eval (.tmp 7) = .pointer (some ⟨z7, 0, none⟩) := (hrest 7 (by intro iq2 hiq2; (repeat' split) <;> omega)).trans rfl
    have fp7 := ev hp7
    have hx7 : W.heap[z7]? = some (.cells #[.int .i64 T.k, .bool T.b, .int .i64 T.n, .string T.s, .slice A.pa T.m A.pc, .slice A.na T.q A.nc] 25 (0, 0)) := (hb.block _ (lt_of_row q7)).trans q7
    have hp8 : a.eval (.tmp 8) = .pointer (some ⟨z8, 0, none⟩) := (hrest 8 (by intro iq2 hiq2; (repeat' split) <;> omega)).trans rfl
    have fp8 := ev hp8
    have hx8 : W.heap[z8]? = some (.cells #[.int .i64 U.k, .bool U.b, .int .i64 U.n, .string U.s, .slice C.pa U.m C.pc, .slice C.na U.q C.nc] 25 (0, 0)) := (hb.block _ (lt_of_row q8)).trans q8
    clear hrest
    obtain rfl | rfl | rfl | rfl | rfl | rfl | rfl | rfl : iq = 0 ∨ iq = 1 ∨ iq = 2 ∨ iq = 3 ∨ iq = 4 ∨ iq = 5 ∨ iq = 6 ∨ iq = 7 := by omega
    . clear hiq
      have hc0 := cell_of_row W z7 0 _ _ _ hx7
      have hc1 := cell_of_row W z7 1 _ _ _ hx7
      have hc2 := cell_of_row W z7 2 _ _ _ hx7
      have hc3 := cell_of_row W z7 3 _ _ _ hx7
      have hc4 := cell_of_row W z7 4 _ _ _ hx7
      have hc5 := cell_of_row W z7 5 _ _ _ hx7
      clear hk
      refine ⟨_, rfl, rfl, rfl, wp_value (v := .agg #[.int .i64 T.k, .bool T.b, .int .i64 T.n, .string T.s, .slice A.pa T.m A.pc, .slice A.na T.q A.nc]) (w' := W) ?_ ⟨_, rfl, Below.refl _ _, rfl⟩⟩
      go_simp
    . clear hiq
      have e0 : a.eval (.tmp 64) = .agg #[.int .i64 T.k, .bool T.b, .int .i64 T.n, .string T.s, .slice A.pa T.m A.pc, .slice A.na T.q A.nc] := hk 0 (mem_of (by kernel_rfl))
      have f0 := ev e0
      clear hk
      refine ⟨_, rfl, rfl, rfl, wp_enter (f := 17) (args := #[.agg #[.int .i64 T.k, .bool T.b, .int .i64 T.n, .string T.s, .slice A.pa T.m A.pc, .slice A.na T.q A.nc]]) ?_ ((kref W hb).mono ?_)⟩
      . go_simp
      . rintro e w2 ⟨⟨v, rfl, hv⟩, hb2⟩
        exact ⟨_, rfl, _, rfl, hb2, hv⟩
    . clear hiq
      obtain ⟨A1, e1, h1⟩ := show (RfT T) (a.eval (.tmp 65)) W from hk 1 (mem_of (by kernel_rfl))
      replace e1 : a.eval (.tmp 65) = .agg #[.int .i64 T.k, .bool T.b, .int .i64 T.n, .string T.s, .slice A1.pa T.m A1.pc, .slice A1.na T.q A1.nc] := e1
      have f1 := ev e1
      clear hk
      refine ⟨_, rfl, rfl, rfl, wp_enter (f := 18) (args := #[.agg #[.int .i64 T.k, .bool T.b, .int .i64 T.n, .string T.s, .slice A1.pa T.m A1.pc, .slice A1.na T.q A1.nc]]) ?_ ((kkey W A1 h1).mono ?_)⟩
      . go_simp
      . rintro e w2 ⟨rfl, hb2⟩
        exact ⟨_, rfl, _, rfl, hb2, rfl⟩
    . clear hiq
      have hc0 := cell_of_row W z7 0 _ _ _ hx7
      have hc1 := cell_of_row W z7 1 _ _ _ hx7
      have hc2 := cell_of_row W z7 2 _ _ _ hx7
      have hc3 := cell_of_row W z7 3 _ _ _ hx7
      have hc4 := cell_of_row W z7 4 _ _ _ hx7
      have hc5 := cell_of_row W z7 5 _ _ _ hx7
      clear hk
      refine ⟨_, rfl, rfl, rfl, wp_value (v := .agg #[.int .i64 T.k, .bool T.b, .int .i64 T.n, .string T.s, .slice A.pa T.m A.pc, .slice A.na T.q A.nc]) (w' := W) ?_ ⟨_, rfl, Below.refl _ _, rfl⟩⟩
      go_simp
    . clear hiq
      have hc0 := cell_of_row W z8 0 _ _ _ hx8
      have hc1 := cell_of_row W z8 1 _ _ _ hx8
      have hc2 := cell_of_row W z8 2 _ _ _ hx8
      have hc3 := cell_of_row W z8 3 _ _ _ hx8
      have hc4 := cell_of_row W z8 4 _ _ _ hx8
      have hc5 := cell_of_row W z8 5 _ _ _ hx8
      clear hk
      refine ⟨_, rfl, rfl, rfl, wp_value (v := .agg #[.int .i64 U.k, .bool U.b, .int .i64 U.n, .string U.s, .slice C.pa U.m C.pc, .slice C.na U.q C.nc]) (w' := W) ?_ ⟨_, rfl, Below.refl _ _, rfl⟩⟩
      go_simp
    . clear hiq
      have e3 : a.eval (.tmp 67) = .agg #[.int .i64 T.k, .bool T.b, .int .i64 T.n, .string T.s, .slice A.pa T.m A.pc, .slice A.na T.q A.nc] := hk 3 (mem_of (by kernel_rfl))
      have f3 := ev e3
      have e4 : a.eval (.tmp 68) = .agg #[.int .i64 U.k, .bool U.b, .int .i64 U.n, .string U.s, .slice C.pa U.m C.pc, .slice C.na U.q C.nc] := hk 4 (mem_of (by kernel_rfl))
      have f4 := ev e4
      clear hk
      refine ⟨_, rfl, rfl, rfl, wp_enter (f := 21) (args := #[.agg #[.int .i64 T.k, .bool T.b, .int .i64 T.n, .string T.s, .slice A.pa T.m A.pc, .slice A.na T.q A.nc], .agg #[.int .i64 U.k, .bool U.b, .int .i64 U.n, .string U.s, .slice C.pa U.m C.pc, .slice C.na U.q C.nc]]) ?_ ((kcmp W hb).mono ?_)⟩
      . go_simp
      . rintro e w2 ⟨rfl, hb2⟩
        exact ⟨_, rfl, _, rfl, hb2, rfl⟩
    . clear hiq
      have e2 : a.eval (.tmp 66) = .string ka := hk 2 (mem_of (by kernel_rfl))
      have f2 := ev e2
      clear hk
      refine ⟨_, rfl, rfl, rfl, wp_value (v := .string ka) (w' := W) ?_ ⟨_, rfl, Below.refl _ _, rfl⟩⟩
      go_simp
    . clear hiq
      have e5 : a.eval (.tmp 69) = .int .i64 cc1 := hk 5 (mem_of (by kernel_rfl))
      have f5 := ev e5
      clear hk
      refine ⟨_, rfl, rfl, rfl, wp_value (v := .int .i64 cc1) (w' := W) ?_ ⟨_, rfl, Below.refl _ _, rfl⟩⟩
      go_simp
  case post =>
    intro V1 W2 hbW hV
    have v6 : V1 6 = .string ka := hV 6 (by omega)
    have v7 : V1 7 = .int .i64 cc1 := hV 7 (by omega)
    have H6 : Hid (Below w.heap.size w W2) := H5.out.1.bel.trans (hbW.mono H5.out.1.bel.size)
    have r9 := Below.row hbW H5.out.2.1
    have p0 := cell_of_row W2 _ 0 _ _ _ r9
    have p1 := cell_of_row W2 _ 1 _ _ _ r9
    clear hV hbW q7 q8 kref kcmp kkey H5 KC KK KR r9
    simp only [putAll, reduceIte, Nat.reduceLT, Nat.reduceAdd]
    rw [v6, v7]
    simp only [Act.put, List.setIfInBounds_toArray, List.set_cons_zero, List.set_cons_succ]
    change wpList _ _ _ [] _ _
    rcases x1 with _ | _ <;> rcases x2 with _ | _
    all_goals
      obtain ⟨D1, D2⟩ := HX.out
      simp only [decide_eq_true_eq, decide_eq_false_iff_not] at D1 D2
    . have HD : Hid (0 < cc1) := by show 0 < cc1; omega
      clear D1 D2 HX
      go_wp2
      all_goals
        go_ret
        have := HD.out
        refine ⟨?_, H6.out⟩
        try simp
        try omega
    . have HD : cc1 = 0 := by omega
      subst HD
      clear D1 D2 HX
      go_wp2
      go_ret
      exact ⟨rfl, H6.out⟩
    . exact absurd D2 (by omega)
    . have HD : Hid (cc1 < 0) := by show cc1 < 0; omega
      clear D1 D2 HX
      go_wp2
      all_goals
        go_ret
        have := HD.out
        refine ⟨?_, H6.out⟩
        try simp
        try omega
end Go.Proofs.YtfemippjaokcmaaGreatDoor
namespace Go.Proofs.YtfemippjaokcmaaGreatDoor
open Go.RowKit Go.Shelf
attribute [local go_sem] Oper.semAt_some fw0 fw1 fw2 eql33t
set_option maxRecDepth 100000 in
set_option maxHeartbeats 8000000 in
theorem sp_no {w W : World} {T U : V.Tr} {A C : V.Ad} {z7 z8 : Nat} (sg : ByteArray) (h1 : (sg.toList == [61]) = false) (h2 : (sg.toList == [60]) = false) (h3 : (sg.toList == [60, 61]) = false) (h4 : (sg.toList == [62]) = false) (h5 : (sg.toList == [62, 61]) = false) (hM : SpW w W T U A C z7 z8) (he : Ev w) (hg : V.Gm w) (y0 y1 y3 y4 y5 y6 y9 y10 y11 y12 y13 y14 y15 y16 y17 y18 y19 y20 y21 y22 y23 y24 y25 y26 y27 y28 y29 y30 y31 y32 y33 y34 y35 y36 y37 y38 y39 y40 y41 y42 y43 y44 y45 y46 y47 y48 y49 y50 y51 y52 y53 y54 y55 y56 y57 y58 y59 y60 y61 y62 y63 y64 y65 y66 y67 y68 y69 y70 y71 y72 y73 y74 y75 y76 y77 y78 y79 y80 y81 y82 y83 y84 y85 y86 y87 y88 y89 y90 y91 y92 y93 y94 y95 y96 y97 y98 y99 y100 y101 y102 y103 y104 y105 y106 y107 y108 y109 y110 y111 y112 y113 : Value) (cc : Code) (hcc : cutSd Tryz.f5.body = some cc) :
    Code.wp Tryz.prog cc (bodyPost Tryz.prog Tryz.f5 (fun e w' => e = .returned (.bool true) /\ Below w.heap.size w w')) ⟨List.toArray (y0 :: y1 :: .string sg :: y3 :: y4 :: y5 :: y6 :: .pointer (some ⟨z7, 0, none⟩) :: .pointer (some ⟨z8, 0, none⟩) :: y9 :: y10 :: y11 :: y12 :: y13 :: y14 :: y15 :: y16 :: y17 :: y18 :: y19 :: y20 :: y21 :: y22 :: y23 :: y24 :: y25 :: y26 :: y27 :: y28 :: y29 :: y30 :: y31 :: y32 :: y33 :: y34 :: y35 :: y36 :: y37 :: y38 :: y39 :: y40 :: y41 :: y42 :: y43 :: y44 :: y45 :: y46 :: y47 :: y48 :: y49 :: y50 :: y51 :: y52 :: y53 :: y54 :: y55 :: y56 :: y57 :: y58 :: y59 :: y60 :: y61 :: y62 :: y63 :: y64 :: y65 :: y66 :: y67 :: y68 :: y69 :: y70 :: y71 :: y72 :: y73 :: y74 :: y75 :: y76 :: y77 :: y78 :: y79 :: y80 :: y81 :: y82 :: y83 :: y84 :: y85 :: y86 :: y87 :: y88 :: y89 :: y90 :: y91 :: y92 :: y93 :: y94 :: y95 :: y96 :: y97 :: y98 :: y99 :: y100 :: y101 :: y102 :: y103 :: y104 :: y105 :: y106 :: y107 :: y108 :: y109 :: y110 :: y111 :: y112 :: y113 :: []), []⟩ W := by
  obtain rfl := Option.some.inj ((show cutSd Tryz.f5.body = some _ from rfl).symm.trans hcc)
  clear hcc
  have ks := span_no sg h1 h2 h3 h4 h5 (k := U.k) (b := U.b) (n := U.n) (s := U.s) (pa := C.pa) (m := U.m) (pc := C.pc) (na := C.na) (q := U.q) (nc := C.nc) (w := W)
  have H0 := mkHid hM
  have HE := mkHid he
  have HG := mkHid hg
  have q80 := hM.r8
  have d0 := cell_of_row W _ 0 _ _ _ q80
  have d1 := cell_of_row W _ 1 _ _ _ q80
  have d2 := cell_of_row W _ 2 _ _ _ q80
  have d3 := cell_of_row W _ 3 _ _ _ q80
  have d4 := cell_of_row W _ 4 _ _ _ q80
  have d5 := cell_of_row W _ 5 _ _ _ q80
  clear hM he hg q80
  go_wp2_with fail
  refine ks.mono ?_
  rintro e w3 ⟨rfl, hb3⟩
  obtain ⟨w4, hw4⟩ : ∃ u, w3.alloc (.cells #[.string ⟨#[]⟩, .string ⟨#[]⟩] 33) = u := ⟨_, rfl⟩
  obtain ⟨r4, hb4⟩ := alloc1 hw4
  have HW4 := mkHid hw4
  have hb04 : Below W.heap.size W w4 := hb3.trans (hb4.mono hb3.size)
  have H4 : Hid (Below w.heap.size w w4 /\ w4.heap[w3.heap.size]? = some (.cells #[.string ⟨#[]⟩, .string ⟨#[]⟩] 33 (0, 0))) := ⟨(H0.out.later hb04).bel, r4⟩
  have ka1 := awake_any w4 (HE.out.later H4.out.1) (HG.out.later H4.out.1 HG.out.pos)
  clear ks hb3 hw4 hb4 hb04 r4 d0 d1 d2 d3 d4 d5 H0
  go_wp2_with fail
  rw [HW4.out]
  obtain ⟨z9, hz9⟩ : ∃ z, w3.heap.size = z := ⟨_, rfl⟩
  rw [hz9] at H4 ⊢
  clear hz9 HW4
  refine ka1.mono ?_
  rintro e w5 ⟨rfl, hb5⟩
  have r5 := Below.row hb5 H4.out.2
  have H5 : Hid (Below w.heap.size w w5) := H4.out.1.trans (hb5.mono H4.out.1.size)
  have p0 := cell_of_row w5 _ 0 _ _ _ r5
  have p1 := cell_of_row w5 _ 1 _ _ _ r5
  clear ka1 hb5 H4 r5
  go_wp2
  go_ret
  exact ⟨rfl, H5.out⟩
end Go.Proofs.YtfemippjaokcmaaGreatDoor
namespace Go.Proofs.YtfemippjaokcmaaGreatDoor.V.K
open Go.RowKit
structure PI (ty : TypeId) (d0 d1 d2 d3 s5 s6 : Nat) (ra rb : Array Value) (T U : Tr) (a0 : Act) (w0 : World) (l : Array Bool) (a : Act) (w : World) (z5 z6 : Nat) (A C : Ad) : Prop where
  len : l.size = 8
  df : a.defers = a0.defers
  sz : a.tmps.size = a0.tmps.size
  rest : ∀ j, j ≠ d0 -> j ≠ d1 -> j ≠ d2 -> j ≠ d3 -> j ≠ s5 -> j ≠ s6 -> a.tmps.getD j undef = a0.tmps.getD j undef
  v0 : l.getD 0 false = true -> a.tmps.getD d0 undef = .agg ra
  v1 : l.getD 1 false = true -> a.tmps.getD d1 undef = T.val A
  v2 : l.getD 2 false = true -> a.tmps.getD d2 undef = .agg rb
  v3 : l.getD 3 false = true -> a.tmps.getD d3 undef = U.val C
  v4 : l.getD 4 false = true -> a.tmps.getD s5 undef = .pointer (some ⟨z5, 0, none⟩)
  v5 : l.getD 5 false = true -> a.tmps.getD s6 undef = .pointer (some ⟨z6, 0, none⟩)
  hb : Below w0.heap.size w0 w
  l1 : l.getD 1 false = true -> LiesS (fun k => k < w.heap.size /\ (l.getD 4 false = true -> k ≠ z5) /\ (l.getD 5 false = true -> k ≠ z6)) w T A
  l3 : l.getD 3 false = true -> LiesS (fun k => k < w.heap.size /\ (l.getD 4 false = true -> k ≠ z5) /\ (l.getD 5 false = true -> k ≠ z6)) w U C
  b5 : l.getD 4 false = true -> w0.heap.size <= z5 /\ ∃ cs, cs.size = 6 /\ w.heap[z5]? = some (.cells cs ty (0, 0)) /\ (l.getD 6 false = true -> cs = (T.cs A).toArray)
  b6 : l.getD 5 false = true -> w0.heap.size <= z6 /\ ∃ cs, cs.size = 6 /\ w.heap[z6]? = some (.cells cs ty (0, 0)) /\ (l.getD 7 false = true -> cs = (U.cs C).toArray)
  ne : l.getD 4 false = true -> l.getD 5 false = true -> z5 ≠ z6
  n6 : l.getD 6 false = true -> l.getD 1 false = true /\ l.getD 4 false = true
  n7 : l.getD 7 false = true -> l.getD 3 false = true /\ l.getD 5 false = true
theorem cells_size (T : Tr) (A : Ad) : (T.cs A).toArray.size = 6 := rfl
theorem cells_one (T : Tr) (A : Ad) : (T.cs A).toArray.all (·.oneCell') = true := by
  simp [Tr.cs, Value.oneCell']
theorem PI.load0 {ty : TypeId} {d0 d1 d2 d3 s5 s6 : Nat} {ra rb : Array Value} {T U : Tr} {a0 : Act} {w0 w : World} {l : Array Bool} {a : Act} {z5 z6 : Nat} {A C : Ad} (hd : [d0, d1, d2, d3, s5, s6].Nodup) (H : PI ty d0 d1 d2 d3 s5 s6 ra rb T U a0 w0 l a w z5 z6 A C) (hlt : d0 < a.tmps.size) :
    PI ty d0 d1 d2 d3 s5 s6 ra rb T U a0 w0 (l.setIfInBounds 0 true) (a.put (some d0) (.agg ra)) w z5 z6 A C := by
  simp only [List.nodup_cons, List.mem_cons, List.not_mem_nil, or_false, not_or, not_false_eq_true, List.nodup_nil, and_true] at hd
  obtain ⟨⟨n01, n02, n03, n04, n05⟩, ⟨n12, n13, n14, n15⟩, ⟨n23, n24, n25⟩, ⟨n34, n35⟩, n45⟩ := hd
  have e1 : (l.setIfInBounds 0 true).getD 1 false = l.getD 1 false := lset (by decide)
  have e2 : (l.setIfInBounds 0 true).getD 2 false = l.getD 2 false := lset (by decide)
  have e3 : (l.setIfInBounds 0 true).getD 3 false = l.getD 3 false := lset (by decide)
  have e4 : (l.setIfInBounds 0 true).getD 4 false = l.getD 4 false := lset (by decide)
  have e5 : (l.setIfInBounds 0 true).getD 5 false = l.getD 5 false := lset (by decide)
  have e6 : (l.setIfInBounds 0 true).getD 6 false = l.getD 6 false := lset (by decide)
  have e7 : (l.setIfInBounds 0 true).getD 7 false = l.getD 7 false := lset (by decide)
  exact {
  len := by simp [H.len]
  df := H.df
  sz := (put_size' _ _ _).trans H.sz
  rest := fun j h0 h1 h2 h3 h4 h5 => (put_ne (Ne.symm h0)).trans (H.rest j h0 h1 h2 h3 h4 h5)
  v0 := fun _ => put_eq hlt
  v1 := by simp only [e1]; exact fun h => (put_ne n01).trans (H.v1 h)
  v2 := by simp only [e2]; exact fun h => (put_ne n02).trans (H.v2 h)
  v3 := by simp only [e3]; exact fun h => (put_ne n03).trans (H.v3 h)
  v4 := by simp only [e4]; exact fun h => (put_ne n04).trans (H.v4 h)
  v5 := by simp only [e5]; exact fun h => (put_ne n05).trans (H.v5 h)
  hb := H.hb
  l1 := by simp only [e1, e4, e5]; exact H.l1
  l3 := by simp only [e3, e4, e5]; exact H.l3
  b5 := by simp only [e4, e6]; exact H.b5
  b6 := by simp only [e5, e7]; exact H.b6
  ne := by simp only [e4, e5]; exact H.ne
  n6 := by simp only [e6, e1, e4]; exact H.n6
  n7 := by simp only [e7, e3, e5]; exact H.n7
  }
theorem PI.load2 {ty : TypeId} {d0 d1 d2 d3 s5 s6 : Nat} {ra rb : Array Value} {T U : Tr} {a0 : Act} {w0 w : World} {l : Array Bool} {a : Act} {z5 z6 : Nat} {A C : Ad} (hd : [d0, d1, d2, d3, s5, s6].Nodup) (H : PI ty d0 d1 d2 d3 s5 s6 ra rb T U a0 w0 l a w z5 z6 A C) (hlt : d2 < a.tmps.size) :
    PI ty d0 d1 d2 d3 s5 s6 ra rb T U a0 w0 (l.setIfInBounds 2 true) (a.put (some d2) (.agg rb)) w z5 z6 A C := by
  simp only [List.nodup_cons, List.mem_cons, List.not_mem_nil, or_false, not_or, not_false_eq_true, List.nodup_nil, and_true] at hd
  obtain ⟨⟨n01, n02, n03, n04, n05⟩, ⟨n12, n13, n14, n15⟩, ⟨n23, n24, n25⟩, ⟨n34, n35⟩, n45⟩ := hd
  have e0 : (l.setIfInBounds 2 true).getD 0 false = l.getD 0 false := lset (by decide)
  have e1 : (l.setIfInBounds 2 true).getD 1 false = l.getD 1 false := lset (by decide)
  have e3 : (l.setIfInBounds 2 true).getD 3 false = l.getD 3 false := lset (by decide)
  have e4 : (l.setIfInBounds 2 true).getD 4 false = l.getD 4 false := lset (by decide)
  have e5 : (l.setIfInBounds 2 true).getD 5 false = l.getD 5 false := lset (by decide)
  have e6 : (l.setIfInBounds 2 true).getD 6 false = l.getD 6 false := lset (by decide)
  have e7 : (l.setIfInBounds 2 true).getD 7 false = l.getD 7 false := lset (by decide)
  exact {
  len := by simp [H.len]
  df := H.df
  sz := (put_size' _ _ _).trans H.sz
  rest := fun j h0 h1 h2 h3 h4 h5 => (put_ne (Ne.symm h2)).trans (H.rest j h0 h1 h2 h3 h4 h5)
  v0 := by simp only [e0]; exact fun h => (put_ne (Ne.symm n02)).trans (H.v0 h)
  v1 := by simp only [e1]; exact fun h => (put_ne (Ne.symm n12)).trans (H.v1 h)
  v2 := fun _ => put_eq hlt
  v3 := by simp only [e3]; exact fun h => (put_ne n23).trans (H.v3 h)
  v4 := by simp only [e4]; exact fun h => (put_ne n24).trans (H.v4 h)
  v5 := by simp only [e5]; exact fun h => (put_ne n25).trans (H.v5 h)
  hb := H.hb
  l1 := by simp only [e1, e4, e5]; exact H.l1
  l3 := by simp only [e3, e4, e5]; exact H.l3
  b5 := by simp only [e4, e6]; exact H.b5
  b6 := by simp only [e5, e7]; exact H.b6
  ne := by simp only [e4, e5]; exact H.ne
  n6 := by simp only [e6, e1, e4]; exact H.n6
  n7 := by simp only [e7, e3, e5]; exact H.n7
  }
theorem PI.call1 {ty : TypeId} {d0 d1 d2 d3 s5 s6 : Nat} {ra rb : Array Value} {T U : Tr} {a0 : Act} {w0 w : World} {l : Array Bool} {a : Act} {z5 z6 : Nat} {A C : Ad} (hd : [d0, d1, d2, d3, s5, s6].Nodup) (H : PI ty d0 d1 d2 d3 s5 s6 ra rb T U a0 w0 l a w z5 z6 A C) (hlt : d1 < a.tmps.size) (hfr : l.getD 1 false = false) {B : Nat} (hB : B <= w0.heap.size) {w' : World} {A' : Ad}
    (hL : LiesS (fun k => k < B ∨ (w.heap.size <= k /\ k < w'.heap.size)) w' T A') (hbw : Below w.heap.size w w') :
    PI ty d0 d1 d2 d3 s5 s6 ra rb T U a0 w0 (l.setIfInBounds 1 true) (a.put (some d1) (T.val A')) w' z5 z6 A' C := by
  simp only [List.nodup_cons, List.mem_cons, List.not_mem_nil, or_false, not_or, not_false_eq_true, List.nodup_nil, and_true] at hd
  obtain ⟨⟨n01, n02, n03, n04, n05⟩, ⟨n12, n13, n14, n15⟩, ⟨n23, n24, n25⟩, ⟨n34, n35⟩, n45⟩ := hd
  have e0 : (l.setIfInBounds 1 true).getD 0 false = l.getD 0 false := lset (by decide)
  have e2 : (l.setIfInBounds 1 true).getD 2 false = l.getD 2 false := lset (by decide)
  have e3 : (l.setIfInBounds 1 true).getD 3 false = l.getD 3 false := lset (by decide)
  have e4 : (l.setIfInBounds 1 true).getD 4 false = l.getD 4 false := lset (by decide)
  have e5 : (l.setIfInBounds 1 true).getD 5 false = l.getD 5 false := lset (by decide)
  have e6 : (l.setIfInBounds 1 true).getD 6 false = l.getD 6 false := lset (by decide)
  have e7 : (l.setIfInBounds 1 true).getD 7 false = l.getD 7 false := lset (by decide)
  have hsz := H.hb.size
  have hsw := hbw.size
  exact {
  len := by simp [H.len]
  df := H.df
  sz := (put_size' _ _ _).trans H.sz
  rest := fun j h0 h1 h2 h3 h4 h5 => (put_ne (Ne.symm h1)).trans (H.rest j h0 h1 h2 h3 h4 h5)
  v0 := by simp only [e0]; exact fun h => (put_ne (Ne.symm n01)).trans (H.v0 h)
  v1 := fun _ => put_eq hlt
  v2 := by simp only [e2]; exact fun h => (put_ne n12).trans (H.v2 h)
  v3 := by simp only [e3]; exact fun h => (put_ne n13).trans (H.v3 h)
  v4 := by simp only [e4]; exact fun h => (put_ne n14).trans (H.v4 h)
  v5 := by simp only [e5]; exact fun h => (put_ne n15).trans (H.v5 h)
  hb := H.hb.trans (hbw.mono H.hb.size)
  l1 := by
    simp only [e4, e5]
    intro _
    refine hL.up (fun k hk => ⟨?_, fun h4 => ?_, fun h5 => ?_⟩)
    . rcases hk with hk | hk
      . omega
      . exact hk.2
    . obtain ⟨hz, cs, _, hr, _⟩ := H.b5 h4
      have := lt_of_row hr
      omega
    . obtain ⟨hz, cs, _, hr, _⟩ := H.b6 h5
      have := lt_of_row hr
      omega
  l3 := by
    simp only [e3, e4, e5]
    exact fun h => ((H.l3 h).kept (fun k hk => hbw.block k hk.1)).up (fun k hk => ⟨by have := hk.1; omega, hk.2⟩)
  b5 := by
    simp only [e4, e6]
    intro h
    obtain ⟨hz, cs, h6, hr, hc⟩ := H.b5 h
    refine ⟨hz, cs, h6, (hbw.block _ (lt_of_row hr)).trans hr, fun hs => ?_⟩
    have := (H.n6 hs).1
    rw [hfr] at this
    cases this
  b6 := by
    simp only [e5, e7]
    intro h
    obtain ⟨hz, cs, h6, hr, hc⟩ := H.b6 h
    exact ⟨hz, cs, h6, (hbw.block _ (lt_of_row hr)).trans hr, hc⟩
  ne := by simp only [e4, e5]; exact H.ne
  n6 := by
    simp only [e6, e4]
    intro hs
    have := (H.n6 hs).1
    rw [hfr] at this
    cases this
  n7 := by simp only [e7, e3, e5]; exact H.n7
  }
theorem PI.call3 {ty : TypeId} {d0 d1 d2 d3 s5 s6 : Nat} {ra rb : Array Value} {T U : Tr} {a0 : Act} {w0 w : World} {l : Array Bool} {a : Act} {z5 z6 : Nat} {A C : Ad} (hd : [d0, d1, d2, d3, s5, s6].Nodup) (H : PI ty d0 d1 d2 d3 s5 s6 ra rb T U a0 w0 l a w z5 z6 A C) (hlt : d3 < a.tmps.size) (hfr : l.getD 3 false = false) {B : Nat} (hB : B <= w0.heap.size) {w' : World} {C' : Ad}
    (hL : LiesS (fun k => k < B ∨ (w.heap.size <= k /\ k < w'.heap.size)) w' U C') (hbw : Below w.heap.size w w') :
    PI ty d0 d1 d2 d3 s5 s6 ra rb T U a0 w0 (l.setIfInBounds 3 true) (a.put (some d3) (U.val C')) w' z5 z6 A C' := by
  simp only [List.nodup_cons, List.mem_cons, List.not_mem_nil, or_false, not_or, not_false_eq_true, List.nodup_nil, and_true] at hd
  obtain ⟨⟨n01, n02, n03, n04, n05⟩, ⟨n12, n13, n14, n15⟩, ⟨n23, n24, n25⟩, ⟨n34, n35⟩, n45⟩ := hd
  have e0 : (l.setIfInBounds 3 true).getD 0 false = l.getD 0 false := lset (by decide)
  have e1 : (l.setIfInBounds 3 true).getD 1 false = l.getD 1 false := lset (by decide)
  have e2 : (l.setIfInBounds 3 true).getD 2 false = l.getD 2 false := lset (by decide)
  have e4 : (l.setIfInBounds 3 true).getD 4 false = l.getD 4 false := lset (by decide)
  have e5 : (l.setIfInBounds 3 true).getD 5 false = l.getD 5 false := lset (by decide)
  have e6 : (l.setIfInBounds 3 true).getD 6 false = l.getD 6 false := lset (by decide)
  have e7 : (l.setIfInBounds 3 true).getD 7 false = l.getD 7 false := lset (by decide)
  have hsz := H.hb.size
  have hsw := hbw.size
  exact {
  len := by simp [H.len]
  df := H.df
  sz := (put_size' _ _ _).trans H.sz
  rest := fun j h0 h1 h2 h3 h4 h5 => (put_ne (Ne.symm h3)).trans (H.rest j h0 h1 h2 h3 h4 h5)
  v0 := by simp only [e0]; exact fun h => (put_ne (Ne.symm n03)).trans (H.v0 h)
  v1 := by simp only [e1]; exact fun h => (put_ne (Ne.symm n13)).trans (H.v1 h)
  v2 := by simp only [e2]; exact fun h => (put_ne (Ne.symm n23)).trans (H.v2 h)
  v3 := fun _ => put_eq hlt
  v4 := by simp only [e4]; exact fun h => (put_ne n34).trans (H.v4 h)
  v5 := by simp only [e5]; exact fun h => (put_ne n35).trans (H.v5 h)
  hb := H.hb.trans (hbw.mono H.hb.size)
  l3 := by
    simp only [e4, e5]
    intro _
    refine hL.up (fun k hk => ⟨?_, fun h4 => ?_, fun h5 => ?_⟩)
    . rcases hk with hk | hk
      . omega
      . exact hk.2
    . obtain ⟨hz, cs, _, hr, _⟩ := H.b5 h4
      have := lt_of_row hr
      omega
    . obtain ⟨hz, cs, _, hr, _⟩ := H.b6 h5
      have := lt_of_row hr
      omega
  l1 := by
    simp only [e1, e4, e5]
    exact fun h => ((H.l1 h).kept (fun k hk => hbw.block k hk.1)).up (fun k hk => ⟨by have := hk.1; omega, hk.2⟩)
  b6 := by
    simp only [e5, e7]
    intro h
    obtain ⟨hz, cs, h6, hr, hc⟩ := H.b6 h
    refine ⟨hz, cs, h6, (hbw.block _ (lt_of_row hr)).trans hr, fun hs => ?_⟩
    have := (H.n7 hs).1
    rw [hfr] at this
    cases this
  b5 := by
    simp only [e4, e6]
    intro h
    obtain ⟨hz, cs, h6, hr, hc⟩ := H.b5 h
    exact ⟨hz, cs, h6, (hbw.block _ (lt_of_row hr)).trans hr, hc⟩
  ne := by simp only [e4, e5]; exact H.ne
  n7 := by
    simp only [e7, e5]
    intro hs
    have := (H.n7 hs).1
    rw [hfr] at this
    cases this
  n6 := by simp only [e6, e1, e4]; exact H.n6
  }
theorem PI.alloc4 {ty : TypeId} {d0 d1 d2 d3 s5 s6 : Nat} {ra rb : Array Value} {T U : Tr} {a0 : Act} {w0 w : World} {l : Array Bool} {a : Act} {z5 z6 : Nat} {A C : Ad} (hd : [d0, d1, d2, d3, s5, s6].Nodup) (H : PI ty d0 d1 d2 d3 s5 s6 ra rb T U a0 w0 l a w z5 z6 A C) (hlt : s5 < a.tmps.size) (hfr : l.getD 4 false = false) {zr : Array Value} (hzr : zr.size = 6) :
    PI ty d0 d1 d2 d3 s5 s6 ra rb T U a0 w0 (l.setIfInBounds 4 true) (a.put (some s5) (.pointer (some ⟨w.heap.size, 0, none⟩))) (w.alloc (.cells zr ty (0, 0))) w.heap.size z6 A C := by
  simp only [List.nodup_cons, List.mem_cons, List.not_mem_nil, or_false, not_or, not_false_eq_true, List.nodup_nil, and_true] at hd
  obtain ⟨⟨n01, n02, n03, n04, n05⟩, ⟨n12, n13, n14, n15⟩, ⟨n23, n24, n25⟩, ⟨n34, n35⟩, n45⟩ := hd
  have e0 : (l.setIfInBounds 4 true).getD 0 false = l.getD 0 false := lset (by decide)
  have e1 : (l.setIfInBounds 4 true).getD 1 false = l.getD 1 false := lset (by decide)
  have e2 : (l.setIfInBounds 4 true).getD 2 false = l.getD 2 false := lset (by decide)
  have e3 : (l.setIfInBounds 4 true).getD 3 false = l.getD 3 false := lset (by decide)
  have e5 : (l.setIfInBounds 4 true).getD 5 false = l.getD 5 false := lset (by decide)
  have e6 : (l.setIfInBounds 4 true).getD 6 false = l.getD 6 false := lset (by decide)
  have e7 : (l.setIfInBounds 4 true).getD 7 false = l.getD 7 false := lset (by decide)
  have hnew : (w.alloc (.cells zr ty (0, 0))).heap[w.heap.size]? = some (.cells zr ty (0, 0)) := heap_alloc_new _ _
  have hsz : (w.alloc (.cells zr ty (0, 0))).heap.size = w.heap.size + 1 := by simp
  have hold : ∀ k, k < w.heap.size -> (w.alloc (.cells zr ty (0, 0))).heap[k]? = w.heap[k]? := fun k hk => Below.heap_alloc w _ k hk
  exact {
  len := by simp [H.len]
  df := H.df
  sz := (put_size' _ _ _).trans H.sz
  rest := fun j h0 h1 h2 h3 h4 h5 => (put_ne (Ne.symm h4)).trans (H.rest j h0 h1 h2 h3 h4 h5)
  v0 := by simp only [e0]; exact fun h => (put_ne (Ne.symm n04)).trans (H.v0 h)
  v1 := by simp only [e1]; exact fun h => (put_ne (Ne.symm n14)).trans (H.v1 h)
  v2 := by simp only [e2]; exact fun h => (put_ne (Ne.symm n24)).trans (H.v2 h)
  v3 := by simp only [e3]; exact fun h => (put_ne (Ne.symm n34)).trans (H.v3 h)
  v4 := fun _ => put_eq hlt
  v5 := by simp only [e5]; exact fun h => (put_ne n45).trans (H.v5 h)
  hb := H.hb.alloc H.hb.size _
  l1 := by
    simp only [e1, e5]
    refine fun h => ((H.l1 h).kept (fun k hk => hold k hk.1)).up (fun k hk => ?_)
    have hk1 := hk.1
    exact ⟨by omega, fun _ => by omega, hk.2.2⟩
  l3 := by
    simp only [e3, e5]
    refine fun h => ((H.l3 h).kept (fun k hk => hold k hk.1)).up (fun k hk => ?_)
    have hk1 := hk.1
    exact ⟨by omega, fun _ => by omega, hk.2.2⟩
  b5 := by
    simp only [e6]
    refine fun _ => ⟨H.hb.size, zr, hzr, hnew, fun hs => ?_⟩
    have := (H.n6 hs).2
    rw [hfr] at this
    cases this
  b6 := by
    simp only [e5, e7]
    intro h
    obtain ⟨hz, cs, h6, hr, hc⟩ := H.b6 h
    exact ⟨hz, cs, h6, (hold _ (lt_of_row hr)).trans hr, hc⟩
  ne := by
    simp only [e5]
    intro _ h
    obtain ⟨_, cs, _, hr, _⟩ := H.b6 h
    have := lt_of_row hr
    omega
  n6 := by
    simp only [e6, e1]
    intro hs
    have := (H.n6 hs).2
    rw [hfr] at this
    cases this
  n7 := by simp only [e7, e3, e5]; exact H.n7
  }
theorem PI.alloc5 {ty : TypeId} {d0 d1 d2 d3 s5 s6 : Nat} {ra rb : Array Value} {T U : Tr} {a0 : Act} {w0 w : World} {l : Array Bool} {a : Act} {z5 z6 : Nat} {A C : Ad} (hd : [d0, d1, d2, d3, s5, s6].Nodup) (H : PI ty d0 d1 d2 d3 s5 s6 ra rb T U a0 w0 l a w z5 z6 A C) (hlt : s6 < a.tmps.size) (hfr : l.getD 5 false = false) {zr : Array Value} (hzr : zr.size = 6) :
    PI ty d0 d1 d2 d3 s5 s6 ra rb T U a0 w0 (l.setIfInBounds 5 true) (a.put (some s6) (.pointer (some ⟨w.heap.size, 0, none⟩))) (w.alloc (.cells zr ty (0, 0))) z5 w.heap.size A C := by
  simp only [List.nodup_cons, List.mem_cons, List.not_mem_nil, or_false, not_or, not_false_eq_true, List.nodup_nil, and_true] at hd
  obtain ⟨⟨n01, n02, n03, n04, n05⟩, ⟨n12, n13, n14, n15⟩, ⟨n23, n24, n25⟩, ⟨n34, n35⟩, n45⟩ := hd
  have e0 : (l.setIfInBounds 5 true).getD 0 false = l.getD 0 false := lset (by decide)
  have e1 : (l.setIfInBounds 5 true).getD 1 false = l.getD 1 false := lset (by decide)
  have e2 : (l.setIfInBounds 5 true).getD 2 false = l.getD 2 false := lset (by decide)
  have e3 : (l.setIfInBounds 5 true).getD 3 false = l.getD 3 false := lset (by decide)
  have e4 : (l.setIfInBounds 5 true).getD 4 false = l.getD 4 false := lset (by decide)
  have e6 : (l.setIfInBounds 5 true).getD 6 false = l.getD 6 false := lset (by decide)
  have e7 : (l.setIfInBounds 5 true).getD 7 false = l.getD 7 false := lset (by decide)
  have hnew : (w.alloc (.cells zr ty (0, 0))).heap[w.heap.size]? = some (.cells zr ty (0, 0)) := heap_alloc_new _ _
  have hsz : (w.alloc (.cells zr ty (0, 0))).heap.size = w.heap.size + 1 := by simp
  have hold : ∀ k, k < w.heap.size -> (w.alloc (.cells zr ty (0, 0))).heap[k]? = w.heap[k]? := fun k hk => Below.heap_alloc w _ k hk
  exact {
  len := by simp [H.len]
  df := H.df
  sz := (put_size' _ _ _).trans H.sz
  rest := fun j h0 h1 h2 h3 h4 h5 => (put_ne (Ne.symm h5)).trans (H.rest j h0 h1 h2 h3 h4 h5)
  v0 := by simp only [e0]; exact fun h => (put_ne (Ne.symm n05)).trans (H.v0 h)
  v1 := by simp only [e1]; exact fun h => (put_ne (Ne.symm n15)).trans (H.v1 h)
  v2 := by simp only [e2]; exact fun h => (put_ne (Ne.symm n25)).trans (H.v2 h)
  v3 := by simp only [e3]; exact fun h => (put_ne (Ne.symm n35)).trans (H.v3 h)
  v4 := by simp only [e4]; exact fun h => (put_ne (Ne.symm n45)).trans (H.v4 h)
  v5 := fun _ => put_eq hlt
  hb := H.hb.alloc H.hb.size _
  l1 := by
    simp only [e1, e4]
    refine fun h => ((H.l1 h).kept (fun k hk => hold k hk.1)).up (fun k hk => ?_)
    have hk1 := hk.1
    exact ⟨by omega, hk.2.1, fun _ => by omega⟩
  l3 := by
    simp only [e3, e4]
    refine fun h => ((H.l3 h).kept (fun k hk => hold k hk.1)).up (fun k hk => ?_)
    have hk1 := hk.1
    exact ⟨by omega, hk.2.1, fun _ => by omega⟩
  b6 := by
    simp only [e7]
    refine fun _ => ⟨H.hb.size, zr, hzr, hnew, fun hs => ?_⟩
    have := (H.n7 hs).2
    rw [hfr] at this
    cases this
  b5 := by
    simp only [e4, e6]
    intro h
    obtain ⟨hz, cs, h6, hr, hc⟩ := H.b5 h
    exact ⟨hz, cs, h6, (hold _ (lt_of_row hr)).trans hr, hc⟩
  ne := by
    simp only [e4]
    intro h _
    obtain ⟨_, cs, _, hr, _⟩ := H.b5 h
    have := lt_of_row hr
    omega
  n7 := by
    simp only [e7, e3]
    intro hs
    have := (H.n7 hs).2
    rw [hfr] at this
    cases this
  n6 := by simp only [e6, e1, e4]; exact H.n6
  }
theorem PI.store6 {ty : TypeId} {d0 d1 d2 d3 s5 s6 : Nat} {ra rb : Array Value} {T U : Tr} {a0 : Act} {w0 w : World} {l : Array Bool} {a : Act} {z5 z6 : Nat} {A C : Ad} (H : PI ty d0 d1 d2 d3 s5 s6 ra rb T U a0 w0 l a w z5 z6 A C) (h1 : l.getD 1 false = true) (h4 : l.getD 4 false = true) :
    PI ty d0 d1 d2 d3 s5 s6 ra rb T U a0 w0 (l.setIfInBounds 6 true) a (w.setRow z5 (T.cs A).toArray) z5 z6 A C := by
  have e0 : (l.setIfInBounds 6 true).getD 0 false = l.getD 0 false := lset (by decide)
  have e1 : (l.setIfInBounds 6 true).getD 1 false = l.getD 1 false := lset (by decide)
  have e2 : (l.setIfInBounds 6 true).getD 2 false = l.getD 2 false := lset (by decide)
  have e3 : (l.setIfInBounds 6 true).getD 3 false = l.getD 3 false := lset (by decide)
  have e4 : (l.setIfInBounds 6 true).getD 4 false = l.getD 4 false := lset (by decide)
  have e5 : (l.setIfInBounds 6 true).getD 5 false = l.getD 5 false := lset (by decide)
  have e7 : (l.setIfInBounds 6 true).getD 7 false = l.getD 7 false := lset (by decide)
  obtain ⟨hz, cs, h6, hr, _⟩ := H.b5 h4
  have hother : ∀ k, k ≠ z5 -> (w.setRow z5 (T.cs A).toArray).heap[k]? = w.heap[k]? := fun k hk => setRow_other w z5 k _ hk
  exact {
  len := by simp [H.len]
  df := H.df
  sz := H.sz
  rest := H.rest
  v0 := by simp only [e0]; exact H.v0
  v1 := by simp only [e1]; exact H.v1
  v2 := by simp only [e2]; exact H.v2
  v3 := by simp only [e3]; exact H.v3
  v4 := by simp only [e4]; exact H.v4
  v5 := by simp only [e5]; exact H.v5
  hb := below_setRow H.hb hz _
  l1 := by
    simp only [e1, e4, e5, size_setRow]
    exact fun h => (H.l1 h).kept (fun k hk => hother k (hk.2.1 h4))
  l3 := by
    simp only [e3, e4, e5, size_setRow]
    exact fun h => (H.l3 h).kept (fun k hk => hother k (hk.2.1 h4))
  b5 := by
    simp only [e4]
    exact fun _ => ⟨hz, _, rfl, setRow_heap w z5 cs _ ty (0, 0) hr, fun _ => rfl⟩
  b6 := by
    simp only [e5, e7]
    intro h
    obtain ⟨hz', cs', h6', hr', hc'⟩ := H.b6 h
    exact ⟨hz', cs', h6', (hother _ (fun e => H.ne h4 h e.symm)).trans hr', hc'⟩
  ne := by simp only [e4, e5]; exact H.ne
  n6 := by
    simp only [e1, e4]
    exact fun _ => ⟨h1, h4⟩
  n7 := by simp only [e7, e3, e5]; exact H.n7
  }
theorem PI.store7 {ty : TypeId} {d0 d1 d2 d3 s5 s6 : Nat} {ra rb : Array Value} {T U : Tr} {a0 : Act} {w0 w : World} {l : Array Bool} {a : Act} {z5 z6 : Nat} {A C : Ad} (H : PI ty d0 d1 d2 d3 s5 s6 ra rb T U a0 w0 l a w z5 z6 A C) (h1 : l.getD 3 false = true) (h4 : l.getD 5 false = true) :
    PI ty d0 d1 d2 d3 s5 s6 ra rb T U a0 w0 (l.setIfInBounds 7 true) a (w.setRow z6 (U.cs C).toArray) z5 z6 A C := by
  have e0 : (l.setIfInBounds 7 true).getD 0 false = l.getD 0 false := lset (by decide)
  have e1 : (l.setIfInBounds 7 true).getD 1 false = l.getD 1 false := lset (by decide)
  have e2 : (l.setIfInBounds 7 true).getD 2 false = l.getD 2 false := lset (by decide)
  have e3 : (l.setIfInBounds 7 true).getD 3 false = l.getD 3 false := lset (by decide)
  have e4 : (l.setIfInBounds 7 true).getD 4 false = l.getD 4 false := lset (by decide)
  have e5 : (l.setIfInBounds 7 true).getD 5 false = l.getD 5 false := lset (by decide)
  have e6 : (l.setIfInBounds 7 true).getD 6 false = l.getD 6 false := lset (by decide)
  obtain ⟨hz, cs, h6, hr, _⟩ := H.b6 h4
  have hother : ∀ k, k ≠ z6 -> (w.setRow z6 (U.cs C).toArray).heap[k]? = w.heap[k]? := fun k hk => setRow_other w z6 k _ hk
  exact {
  len := by simp [H.len]
  df := H.df
  sz := H.sz
  rest := H.rest
  v0 := by simp only [e0]; exact H.v0
  v1 := by simp only [e1]; exact H.v1
  v2 := by simp only [e2]; exact H.v2
  v3 := by simp only [e3]; exact H.v3
  v4 := by simp only [e4]; exact H.v4
  v5 := by simp only [e5]; exact H.v5
  hb := below_setRow H.hb hz _
  l1 := by
    simp only [e1, e4, e5, size_setRow]
    exact fun h => (H.l1 h).kept (fun k hk => hother k (hk.2.2 h4))
  l3 := by
    simp only [e3, e4, e5, size_setRow]
    exact fun h => (H.l3 h).kept (fun k hk => hother k (hk.2.2 h4))
  b6 := by
    simp only [e5]
    exact fun _ => ⟨hz, _, rfl, setRow_heap w z6 cs _ ty (0, 0) hr, fun _ => rfl⟩
  b5 := by
    simp only [e4, e6]
    intro h
    obtain ⟨hz', cs', h6', hr', hc'⟩ := H.b5 h
    exact ⟨hz', cs', h6', (hother _ (H.ne h h4)).trans hr', hc'⟩
  ne := by simp only [e4, e5]; exact H.ne
  n7 := by
    simp only [e3, e5]
    exact fun _ => ⟨h1, h4⟩
  n6 := by simp only [e6, e1, e4]; exact H.n6
  }
theorem arr8 {l : Array Bool} (h : l.size = 8) : ∃ b0 b1 b2 b3 b4 b5 b6 b7, l = #[b0, b1, b2, b3, b4, b5, b6, b7] := by
  obtain ⟨l⟩ := l
  match l, h with
  | [a, b, c, d, e, f, g, i], _ => exact ⟨a, b, c, d, e, f, g, i, rfl⟩
def pairReadyB (ops : Array Oper) (l : Array Bool) : Bool :=
  (Region.ready .any ops l).all fun i => decide (i < 8) && !l.getD i true && (i != 1 || l.getD 0 false) && (i != 3 || l.getD 2 false) && (i != 6 || (l.getD 4 false && l.getD 1 false)) && (i != 7 || (l.getD 5 false && l.getD 3 false))
def pairDoneB (ops : Array Oper) (l : Array Bool) : Bool := !(Region.ready .any ops l).isEmpty || (l.getD 0 false && l.getD 1 false && l.getD 2 false && l.getD 3 false && l.getD 4 false && l.getD 5 false && l.getD 6 false && l.getD 7 false)
def pairAllB (p : Array Bool -> Bool) : Bool := (List.range 256).all fun n => p #[n.testBit 0, n.testBit 1, n.testBit 2, n.testBit 3, n.testBit 4, n.testBit 5, n.testBit 6, n.testBit 7]
theorem bits8 : ∀ b0 b1 b2 b3 b4 b5 b6 b7 : Bool, ∃ n, n < 256 /\ #[n.testBit 0, n.testBit 1, n.testBit 2, n.testBit 3, n.testBit 4, n.testBit 5, n.testBit 6, n.testBit 7] = #[b0, b1, b2, b3, b4, b5, b6, b7] := by
  intro b0 b1 b2 b3 b4 b5 b6 b7
  refine ⟨b0.toNat + 2 * b1.toNat + 4 * b2.toNat + 8 * b3.toNat + 16 * b4.toNat + 32 * b5.toNat + 64 * b6.toNat + 128 * b7.toNat, ?_, ?_⟩
  . cases b0 <;> cases b1 <;> cases b2 <;> cases b3 <;> cases b4 <;> cases b5 <;> cases b6 <;> cases b7 <;> decide
  . revert b0 b1 b2 b3 b4 b5 b6 b7
    decide +kernel
theorem pairAll {p : Array Bool -> Bool} (h : pairAllB p = true) {l : Array Bool} (hl : l.size = 8) : p l = true := by
  obtain ⟨b0, b1, b2, b3, b4, b5, b6, b7, rfl⟩ := arr8 hl
  obtain ⟨n, hn, he⟩ := bits8 b0 b1 b2 b3 b4 b5 b6 b7
  have := List.all_eq_true.1 h n (List.mem_range.2 hn)
  rw [he] at this
  exact this
set_option maxHeartbeats 4000000 in
theorem pair_region {P : Program} {ops : Array Oper} {Q : Exit -> Act -> World -> Prop} {id : Nat} {a0 : Act} {w : World} (hm : P.follows .mixedOrders = true)
    {ty tl : TypeId} {sx sy d0 d1 d2 d3 s5 s6 : Nat} {ra rb zr : Array Value} {T U : Tr} {B : Nat} {o0 o1 o2 o3 o4 o5 o6 o7 : Oper} {f f' : FuncId} {xs xs' : Array Value} {bx bx' : Nat} {tb tb' : TypeId} {dl : TypeDesc}
    (hops : ops = #[o0, o1, o2, o3, o4, o5, o6, o7]) (hready : pairAllB (pairReadyB ops) = true) (hdone : pairAllB (pairDoneB ops) = true)
    (hg : o0.guard = none /\ o1.guard = none /\ o2.guard = none /\ o3.guard = none /\ o4.guard = none /\ o5.guard = none /\ o6.guard = none /\ o7.guard = none)
    (hdst : o0.dst = some d0 /\ o1.dst = some d1 /\ o2.dst = some d2 /\ o3.dst = some d3 /\ o4.dst = some s5 /\ o5.dst = some s6 /\ o6.dst = none /\ o7.dst = none)
    (hop0 : o0.op = .load tl (.tmp sx)) (hop2 : o2.op = .load tl (.tmp sy)) (hop6 : o6.op = .store ty (.tmp s5) (.tmp d1)) (hop7 : o7.op = .store ty (.tmp s6) (.tmp d3))
    (hen1 : ∀ (a : Act) (W : World), a.tmps.getD d0 undef = .agg ra -> (execOp a.eval o1).run P W = .ok (.enter f xs) W)
    (hen3 : ∀ (a : Act) (W : World), a.tmps.getD d2 undef = .agg rb -> (execOp a.eval o3).run P W = .ok (.enter f' xs') W)
    (hal4 : ∀ (a : Act) (W : World), (execOp a.eval o4).run P W = .ok (.value (.pointer (some ⟨W.heap.size, 0, none⟩))) (W.alloc (.cells zr ty (0, 0))))
    (hal5 : ∀ (a : Act) (W : World), (execOp a.eval o5).run P W = .ok (.value (.pointer (some ⟨W.heap.size, 0, none⟩))) (W.alloc (.cells zr ty (0, 0))))
    (hzr : zr.size = 6) (hsl : [sx, sy, d0, d1, d2, d3, s5, s6].Nodup) (hlt : d0 < a0.tmps.size /\ d1 < a0.tmps.size /\ d2 < a0.tmps.size /\ d3 < a0.tmps.size /\ s5 < a0.tmps.size /\ s6 < a0.tmps.size)
    (hxa : a0.tmps.getD sx undef = .pointer (some ⟨bx, 0, none⟩)) (hya : a0.tmps.getD sy undef = .pointer (some ⟨bx', 0, none⟩))
    (hrx : w.heap[bx]? = some (.cells ra tb (0, 0))) (hry : w.heap[bx']? = some (.cells rb tb' (0, 0)))
    (hul : P.underlying tl = some dl) (hdl : (match dl with | .struct _ | .array _ _ => true | _ => false) = true) (hil : (P.info? tl).map (·.size) = some ra.size) (hrr : ra.size = rb.size) (hit : (P.info? ty).map (·.size) = some 6)
    (hB : B <= w.heap.size)
    (hcA : ∀ V, Below w.heap.size w V -> Calls P f xs V fun e w' => ∃ A, e = .returned (T.val A) /\ LiesS (fun k => k < B ∨ (V.heap.size <= k /\ k < w'.heap.size)) w' T A /\ Below V.heap.size V w')
    (hcC : ∀ V, Below w.heap.size w V -> Calls P f' xs' V fun e w' => ∃ C, e = .returned (U.val C) /\ LiesS (fun k => k < B ∨ (V.heap.size <= k /\ k < w'.heap.size)) w' U C /\ Below V.heap.size V w')
    (hQ : ∀ (W : World) (z5 z6 : Nat) (A C : Ad), Below w.heap.size w W -> W.heap[z5]? = some (.cells (T.cs A).toArray ty (0, 0)) -> W.heap[z6]? = some (.cells (U.cs C).toArray ty (0, 0)) -> w.heap.size <= z5 -> w.heap.size <= z6 ->
      Lies W.heap.size W T A -> Lies W.heap.size W U C -> Q .normal ((((((a0.put (some d0) (.agg ra)).put (some d1) (T.val A)).put (some d2) (.agg rb)).put (some d3) (U.val C)).put (some s5) (.pointer (some ⟨z5, 0, none⟩))).put (some s6) (.pointer (some ⟨z6, 0, none⟩))) W) :
    (Code.region id ops true).wp P Q a0 w := by
  subst hops
  simp only [List.nodup_cons, List.mem_cons, List.not_mem_nil, or_false, not_or, not_false_eq_true, List.nodup_nil, and_true] at hsl
  obtain ⟨⟨x1, x2, x3, x4, x5, x6, x7⟩, ⟨y2, y3, y4, y5, y6, y7⟩, ⟨n01, n02, n03, n04, n05⟩, ⟨n12, n13, n14, n15⟩, ⟨n23, n24, n25⟩, ⟨n34, n35⟩, n45⟩ := hsl
  have hd : [d0, d1, d2, d3, s5, s6].Nodup := by
    simp only [List.nodup_cons, List.mem_cons, List.not_mem_nil, or_false, not_or, not_false_eq_true, List.nodup_nil, and_true]
    exact ⟨⟨n01, n02, n03, n04, n05⟩, ⟨n12, n13, n14, n15⟩, ⟨n23, n24, n25⟩, ⟨n34, n35⟩, n45⟩
  refine wp_region_any hm ?_
  refine any_inv (fun l a W => ∃ z5 z6 A C, PI ty d0 d1 d2 d3 s5 s6 ra rb T U a0 w l a W z5 z6 A C) ?_ ?_ ?_ _ _ _ _ ?_ ?_
  . rintro l a W ⟨z5, z6, A, C, H⟩
    exact H.len
  . rintro l a W ⟨z5, z6, A, C, H⟩ hr
    have hd8 := pairAll hdone H.len
    unfold pairDoneB at hd8
    rw [hr] at hd8
    simp only [List.isEmpty_nil, Bool.not_true, Bool.false_or, Bool.and_eq_true] at hd8
    obtain ⟨⟨⟨⟨⟨⟨⟨t0, t1⟩, t2⟩, t3⟩, t4⟩, t5⟩, t6⟩, t7⟩ := hd8
    obtain ⟨hz5, cs5, _, hr5, hc5⟩ := H.b5 t4
    obtain ⟨hz6, cs6, _, hr6, hc6⟩ := H.b6 t5
    rw [hc5 t6] at hr5
    rw [hc6 t7] at hr6
    have he : a = ((((((a0.put (some d0) (.agg ra)).put (some d1) (T.val A)).put (some d2) (.agg rb)).put (some d3) (U.val C)).put (some s5) (.pointer (some ⟨z5, 0, none⟩))).put (some s6) (.pointer (some ⟨z6, 0, none⟩))) := by
      refine act_ext H.df ?_ (fun j => ?_)
      . rw [put_size', put_size', put_size', put_size', put_size', put_size']
        exact H.sz
      . by_cases j5 : j = s6
        . rw [j5, H.v5 t5, put_eq (by rw [put_size', put_size', put_size', put_size', put_size']; exact hlt.2.2.2.2.2)]
        rw [put_ne (Ne.symm j5)]
        by_cases j4 : j = s5
        . rw [j4, H.v4 t4, put_eq (by rw [put_size', put_size', put_size', put_size']; exact hlt.2.2.2.2.1)]
        rw [put_ne (Ne.symm j4)]
        by_cases j3 : j = d3
        . rw [j3, H.v3 t3, put_eq (by rw [put_size', put_size', put_size']; exact hlt.2.2.2.1)]
        rw [put_ne (Ne.symm j3)]
        by_cases j2 : j = d2
        . rw [j2, H.v2 t2, put_eq (by rw [put_size', put_size']; exact hlt.2.2.1)]
        rw [put_ne (Ne.symm j2)]
        by_cases j1 : j = d1
        . rw [j1, H.v1 t1, put_eq (by rw [put_size']; exact hlt.2.1)]
        rw [put_ne (Ne.symm j1)]
        by_cases j0 : j = d0
        . rw [j0, H.v0 t0, put_eq hlt.1]
        rw [put_ne (Ne.symm j0)]
        exact H.rest j j0 j1 j2 j3 j4 j5
    rw [he]
    exact hQ W z5 z6 A C H.hb hr5 hr6 hz5 hz6 ((H.l1 t1).up (fun k hk => hk.1)) ((H.l3 t3).up (fun k hk => hk.1))
  . rintro l a W ⟨z5, z6, A, C, H⟩ i hi
    have hr8 := pairAll hready H.len
    unfold pairReadyB at hr8
    have hri := List.all_eq_true.1 hr8 i hi
    simp only [Bool.and_eq_true, decide_eq_true_eq, Bool.not_eq_true', Bool.or_eq_true, bne_iff_ne, ne_eq] at hri
    obtain ⟨⟨⟨⟨⟨hi8, hfr⟩, h1⟩, h3⟩, h6⟩, h7⟩ := hri
    have hfr' := fresh_at hfr
    have hsz := H.sz
    obtain rfl | rfl | rfl | rfl | rfl | rfl | rfl | rfl : i = 0 ∨ i = 1 ∨ i = 2 ∨ i = 3 ∨ i = 4 ∨ i = 5 ∨ i = 6 ∨ i = 7 := by omega
    . refine wpOp_of (o := o0) rfl hg.1 (wp_load_row tl (.tmp sx) hop0 bx ?_ tb ra (0, 0) dl ?_ hul hdl hil ?_)
      . exact (H.rest sx x2 x3 x4 x5 x6 x7).trans hxa
      . exact (H.hb.block _ (lt_of_row hrx)).trans hrx
      . rw [hdst.1]
        exact ⟨z5, z6, A, C, H.load0 hd (by omega)⟩
    . have hl0 : l.getD 0 false = true := by simpa using h1
      refine wpOp_of (o := o1) rfl hg.2.1 (wp_enter (hen1 a W (H.v0 hl0)) ((hcA W H.hb).mono ?_))
      rintro e w' ⟨A', rfl, hL, hb⟩
      rw [hdst.2.1]
      exact ⟨_, rfl, z5, z6, A', C, H.call1 hd (by omega) hfr' hB hL hb⟩
    . refine wpOp_of (o := o2) rfl hg.2.2.1 (wp_load_row tl (.tmp sy) hop2 bx' ?_ tb' rb (0, 0) dl ?_ hul hdl (by rw [<- hrr]; exact hil) ?_)
      . exact (H.rest sy y2 y3 y4 y5 y6 y7).trans hya
      . exact (H.hb.block _ (lt_of_row hry)).trans hry
      . rw [hdst.2.2.1]
        exact ⟨z5, z6, A, C, H.load2 hd (by omega)⟩
    . have hl2 : l.getD 2 false = true := by simpa using h3
      refine wpOp_of (o := o3) rfl hg.2.2.2.1 (wp_enter (hen3 a W (H.v2 hl2)) ((hcC W H.hb).mono ?_))
      rintro e w' ⟨C', rfl, hL, hb⟩
      rw [hdst.2.2.2.1]
      exact ⟨_, rfl, z5, z6, A, C', H.call3 hd (by omega) hfr' hB hL hb⟩
    . refine wpOp_of (o := o4) rfl hg.2.2.2.2.1 (wp_value (hal4 a W) ?_)
      rw [hdst.2.2.2.2.1]
      exact ⟨_, z6, A, C, H.alloc4 hd (by omega) hfr' hzr⟩
    . refine wpOp_of (o := o5) rfl hg.2.2.2.2.2.1 (wp_value (hal5 a W) ?_)
      rw [hdst.2.2.2.2.2.1]
      exact ⟨z5, _, A, C, H.alloc5 hd (by omega) hfr' hzr⟩
    . have h41 : l.getD 4 false = true /\ l.getD 1 false = true := by simpa using h6
      obtain ⟨_, cs, hcs, hr, _⟩ := H.b5 h41.1
      refine wpOp_of (o := o6) rfl hg.2.2.2.2.2.2.1 (wp_store_row ty (.tmp s5) (.tmp d1) hop6 z5 (T.cs A).toArray (H.v4 h41.1) (H.v1 h41.2) ty cs hr hit hcs (cells_one T A) ?_)
      rw [hdst.2.2.2.2.2.2.1]
      exact ⟨z5, z6, A, C, H.store6 h41.2 h41.1⟩
    . have h53 : l.getD 5 false = true /\ l.getD 3 false = true := by simpa using h7
      obtain ⟨_, cs, hcs, hr, _⟩ := H.b6 h53.1
      refine wpOp_of (o := o7) rfl hg.2.2.2.2.2.2.2 (wp_store_row ty (.tmp s6) (.tmp d3) hop7 z6 (U.cs C).toArray (H.v5 h53.1) (H.v3 h53.2) ty cs hr hit hcs (cells_one U C) ?_)
      rw [hdst.2.2.2.2.2.2.2]
      exact ⟨z5, z6, A, C, H.store7 h53.2 h53.1⟩
  . show unl (Array.replicate 8 false) <= 8
    decide
  . have hrep : ∀ j, (Array.replicate 8 false).getD j false = false := fun j => by simp [Array.getD_eq_getD_getElem?, Array.getElem?_replicate]; split <;> rfl
    exact ⟨0, 0, ⟨none, 0, none, 0⟩, ⟨none, 0, none, 0⟩, { len := rfl, df := rfl, sz := rfl, rest := fun _ _ _ _ _ _ _ => rfl, v0 := (fun h => absurd ((hrep _).symm.trans h) (by decide)), v1 := (fun h => absurd ((hrep _).symm.trans h) (by decide)), v2 := (fun h => absurd ((hrep _).symm.trans h) (by decide)), v3 := (fun h => absurd ((hrep _).symm.trans h) (by decide)), v4 := (fun h => absurd ((hrep _).symm.trans h) (by decide)), v5 := (fun h => absurd ((hrep _).symm.trans h) (by decide)), hb := (Below.refl _ w).drew, l1 := (fun h => absurd ((hrep _).symm.trans h) (by decide)), l3 := (fun h => absurd ((hrep _).symm.trans h) (by decide)), b5 := (fun h => absurd ((hrep _).symm.trans h) (by decide)), b6 := (fun h => absurd ((hrep _).symm.trans h) (by decide)), ne := (fun h => absurd ((hrep _).symm.trans h) (by decide)), n6 := (fun h => absurd ((hrep _).symm.trans h) (by decide)), n7 := (fun h => absurd ((hrep _).symm.trans h) (by decide)) }⟩
end Go.Proofs.YtfemippjaokcmaaGreatDoor.V.K
