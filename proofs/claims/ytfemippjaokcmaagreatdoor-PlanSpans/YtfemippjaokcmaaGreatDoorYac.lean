/- PlanSpans, behind the checks: one sign. PlanSpans, behind the checks: one sign. PlanSpans, behind the checks: one sign. PlanSpans, behind the checks: one sign. -/
import Derived.Test.YtfemippjaokcmaaGreatDoorYab
namespace Go.Proofs.YtfemippjaokcmaaGreatDoor
open Go.RowKit Go.Shelf
attribute [local go_sem] Oper.semAt_some fw0 fw1 fw2 eql33t
set_option maxRecDepth 100000 in
set_option maxHeartbeats 8000000 in
theorem sp_eq {w W : World} {T U : V.Tr} {A C : V.Ad} {z7 z8 : Nat} (hM : SpW w W T U A C z7 z8) (hT : SpT T U) (he : Ev w) (hg : V.Gm w) (y0 y1 y3 y4 y5 y6 y9 y10 y11 y12 y13 y14 y15 y16 y17 y18 y19 y20 y21 y22 y23 y24 y25 y26 y27 y28 y29 y30 y31 y32 y33 y34 y35 y36 y37 y38 y39 y40 y41 y42 y43 y44 y45 y46 y47 y48 y49 y50 y51 y52 y53 y54 y55 y56 y57 y58 y59 y60 y61 y62 y63 y64 y65 y66 y67 y68 y69 y70 y71 y72 y73 y74 y75 y76 y77 y78 y79 y80 y81 y82 y83 y84 y85 y86 y87 y88 y89 y90 y91 y92 y93 y94 y95 y96 y97 y98 y99 y100 y101 y102 y103 y104 y105 y106 y107 y108 y109 y110 y111 y112 y113 : Value) (cc : Code) (hcc : cutSd Tryz.f5.body = some cc) :
    Code.wp Tryz.prog cc (bodyPost Tryz.prog Tryz.f5 (fun e w' => e = .returned (.bool true) /\ Below w.heap.size w w')) ⟨List.toArray (y0 :: y1 :: .string ⟨#[61]⟩ :: y3 :: y4 :: y5 :: y6 :: .pointer (some ⟨z7, 0, none⟩) :: .pointer (some ⟨z8, 0, none⟩) :: y9 :: y10 :: y11 :: y12 :: y13 :: y14 :: y15 :: y16 :: y17 :: y18 :: y19 :: y20 :: y21 :: y22 :: y23 :: y24 :: y25 :: y26 :: y27 :: y28 :: y29 :: y30 :: y31 :: y32 :: y33 :: y34 :: y35 :: y36 :: y37 :: y38 :: y39 :: y40 :: y41 :: y42 :: y43 :: y44 :: y45 :: y46 :: y47 :: y48 :: y49 :: y50 :: y51 :: y52 :: y53 :: y54 :: y55 :: y56 :: y57 :: y58 :: y59 :: y60 :: y61 :: y62 :: y63 :: y64 :: y65 :: y66 :: y67 :: y68 :: y69 :: y70 :: y71 :: y72 :: y73 :: y74 :: y75 :: y76 :: y77 :: y78 :: y79 :: y80 :: y81 :: y82 :: y83 :: y84 :: y85 :: y86 :: y87 :: y88 :: y89 :: y90 :: y91 :: y92 :: y93 :: y94 :: y95 :: y96 :: y97 :: y98 :: y99 :: y100 :: y101 :: y102 :: y103 :: y104 :: y105 :: y106 :: y107 :: y108 :: y109 :: y110 :: y111 :: y112 :: y113 :: []), []⟩ W := by
  obtain rfl := Option.some.inj ((show cutSd Tryz.f5.body = some _ from rfl).symm.trans hcc)
  clear hcc
  have hlU := hM.lU
  have ks := span_any ⟨#[61]⟩ (k := U.k) (b := U.b) (n := U.n) (s := U.s) (pa := C.pa) (m := U.m) (pc := C.pc) (na := C.na) (q := U.q) (nc := C.nc) (w := W) (K := kyB U) (by have := ky_len hT.cU; unfold maxLen; omega) (fun W2 hb2 => V.of_ok hT.cU hT.mU (hg.later (hM.bel.trans (hb2.mono hM.bel.size)) hg.pos) ((V.Lies.later hb2 hlU).up hb2.size) (Nat.le_refl _))
  have hsp : spanF ((⟨#[61]⟩ : ByteArray).data.toList) (kyB U) = (kyB U, V.nextB (kyB U), true) := by
    unfold spanF
    simp
  rw [hsp] at ks
  have f1 := hT.sf.lt
  have f2 := hT.sf.nx
  have f3 := hT.sf.e1
  have f4 := hT.sf.e2
  have f5 := empty_eq f3
  have f6 := empty_eq f4
  have kcmp0 : ∀ W2, Below W.heap.size W W2 -> Calls Tryz.prog 21 #[.agg #[.int .i64 T.k, .bool T.b, .int .i64 T.n, .string T.s, .slice A.pa T.m A.pc, .slice A.na T.q A.nc], .agg #[.int .i64 U.k, .bool U.b, .int .i64 U.n, .string U.s, .slice C.pa U.m C.pc, .slice C.na U.q C.nc]] W2 fun e w' => e = .returned (.int .i64 (V.cmpT T U)) /\ Below W2.heap.size W2 w' := fun W2 hb => V.cmp_all T U W2.heap.size W2 A C ((V.Lies.later hb hM.lT).up hb.size) ((V.Lies.later hb hM.lU).up hb.size) (Nat.le_refl _)
  have kkey0 : ∀ (W2 : World) (A1 : V.Ad), V.Lies W2.heap.size W2 T A1 -> Calls Tryz.prog 18 #[.agg #[.int .i64 T.k, .bool T.b, .int .i64 T.n, .string T.s, .slice A1.pa T.m A1.pc, .slice A1.na T.q A1.nc]] W2 fun e w' => e = .returned (.string (kyB T)) /\ Below W2.heap.size W2 w' := fun W2 A1 h => V.key_ok hT.cT hT.mT h (Nat.le_refl _)
  have KR := mkHid (ref_t hT.sT hM.lT)
  obtain ⟨kb, hkb⟩ : ∃ x, kyB U = x := ⟨_, rfl⟩
  obtain ⟨nb, hnb⟩ : ∃ x, V.nextB (kyB U) = x := ⟨_, rfl⟩
  rw [hnb] at f2 f4 f6 ks
  rw [hkb] at f1 f3 f5 ks
  obtain ⟨ka, hka⟩ : ∃ x, kyB T = x := ⟨_, rfl⟩
  rw [hka] at f1 f2 kkey0
  obtain ⟨cc1, hcc1⟩ : ∃ x, V.cmpT T U = x := ⟨_, rfl⟩
  rw [hcc1] at kcmp0 f1 f2
  obtain ⟨x1, hx1⟩ : ∃ x, decide (cc1 < 0) = x := ⟨_, rfl⟩
  obtain ⟨x2, hx2⟩ : ∃ x, decide (cc1 <= 0) = x := ⟨_, rfl⟩
  rw [hx1] at f1
  rw [hx2] at f2
  have HX := mkHid (And.intro hx1 hx2)
  have f7 : Op.bytesLess ka.toList [] = false := V.lt8_nil_r ka.toList
  have KC := mkHid kcmp0
  have KK := mkHid kkey0
  have H0 := mkHid hM
  have HE := mkHid he
  have HG := mkHid hg
  have q70 := hM.r7
  have q80 := hM.r8
  have d0 := cell_of_row W _ 0 _ _ _ q80
  have d1 := cell_of_row W _ 1 _ _ _ q80
  have d2 := cell_of_row W _ 2 _ _ _ q80
  have d3 := cell_of_row W _ 3 _ _ _ q80
  have d4 := cell_of_row W _ 4 _ _ _ q80
  have d5 := cell_of_row W _ 5 _ _ _ q80
  clear hM hT he hg hsp hkb hnb hka hcc1 hlU hx1 hx2 kcmp0 kkey0 q70 q80
  go_wp2_with fail
  refine ks.mono ?_
  rintro e w3 ⟨rfl, hb3⟩
  obtain ⟨w4, hw4⟩ : ∃ u, w3.alloc (.cells #[.string kb, .string nb] 33) = u := ⟨_, rfl⟩
  obtain ⟨r4, hb4⟩ := alloc1 hw4
  have HW4 := mkHid hw4
  have hb04 : Below W.heap.size W w4 := hb3.trans (hb4.mono hb3.size)
  have H4 : Hid (SpW w w4 T U A C z7 z8 /\ w4.heap[w3.heap.size]? = some (.cells #[.string kb, .string nb] 33 (0, 0)) /\ Below W.heap.size W w4) := ⟨H0.out.later hb04, r4, hb04⟩
  have ka1 := awake_any w4 (HE.out.later H4.out.1.bel) (HG.out.later H4.out.1.bel HG.out.pos)
  clear ks hb3 hw4 hb4 hb04 r4 d0 d1 d2 d3 d4 d5 H0
  go_wp2_with (first | rw [HW4.out] | fail)
  obtain ⟨z9, hz9⟩ : ∃ z, w3.heap.size = z := ⟨_, rfl⟩
  rw [hz9] at H4 ⊢
  clear hz9 HW4
  refine ka1.mono ?_
  rintro e w5 ⟨rfl, hb5⟩
  have H5 : Hid (SpW w w5 T U A C z7 z8 /\ w5.heap[z9]? = some (.cells #[.string kb, .string nb] 33 (0, 0)) /\ Below W.heap.size W w5) := ⟨H4.out.1.later hb5, Below.row hb5 H4.out.2.1, H4.out.2.2.trans (hb5.mono H4.out.2.2.size)⟩
  clear ka1 hb5 H4
  go_wp2_with fail
  have q7 := H5.out.1.r7
  have q8 := H5.out.1.r8
  have kref : ∀ W2, Below w5.heap.size w5 W2 -> _ := fun W2 hb => KR.out W2 (H5.out.2.2.trans (hb.mono H5.out.2.2.size))
  have kcmp : ∀ W2, Below w5.heap.size w5 W2 -> _ := fun W2 hb => KC.out W2 (H5.out.2.2.trans (hb.mono H5.out.2.2.size))
  have kkey := KK.out
  refine any_tail (by kernel_rfl) 8 (by exact Nat.le_of_ble_eq_true rfl) (fun i => if i < 6 then i + 64 else i + 6) (mixR [(1, (RfT T))] [.agg #[.int .i64 T.k, .bool T.b, .int .i64 T.n, .string T.s, .slice A.pa T.m A.pc, .slice A.na T.q A.nc], undef, .string ka, .agg #[.int .i64 T.k, .bool T.b, .int .i64 T.n, .string T.s, .slice A.pa T.m A.pc, .slice A.na T.q A.nc], .agg #[.int .i64 U.k, .bool U.b, .int .i64 U.n, .string U.s, .slice C.pa U.m C.pc, .slice C.na U.q C.nc], .int .i64 cc1, .string ka, .int .i64 cc1]) (by kernel_rfl) (by kernel_rfl) (by kernel_rfl) (by kernel_rfl) (mixR_later _ _ (stab_cons (RfT.later) (stab_nil))) ?step ?post
  case step =>
    intro iq hiq a W hrest hb hk
    have hp7 : a.eval (.tmp 7) = .pointer (some ⟨z7, 0, none⟩) := (hrest 7 (by intro iq2 hiq2; (repeat' split) <;> omega)).trans rfl
    have fp7 := ev hp7
    have hx7 : W.heap[z7]? = some (.cells #[.int .i64 T.k, .bool T.b, .int .i64 T.n, .string T.s, .slice A.pa T.m A.pc, .slice A.na T.q A.nc] 25 (0, 0)) := (hb.block _ (lt_of_row q7)).trans q7
    have hp8 : a.eval (.tmp 8) = .pointer (some ⟨z8, 0, none⟩) := (hrest 8 (by intro iq2 hiq2; (repeat' split) <;> omega)).trans rfl
    have fp8 := ev hp8
    have hx8 : W.heap[z8]? = some (.cells #[.int .i64 U.k, .bool U.b, .int .i64 U.n, .string U.s, .slice C.pa U.m C.pc, .slice C.na U.q C.nc] 25 (0, 0)) := (hb.block _ (lt_of_row q8)).trans q8
    clear hrest
    obtain rfl | rfl | rfl | rfl | rfl | rfl | rfl | rfl : iq = 0 ∨ iq = 1 ∨ iq = 2 ∨ iq = 3 ∨ iq = 4 ∨ iq = 5 ∨ iq = 6 ∨ iq = 7 := by omega
    . clear hiq
      have hc0 := cell_of_row W z7 0 _ _ _ hx7
      have hc1 := cell_of_row W z7 1 _ _ _ hx7
      have hc2 := cell_of_row W z7 2 _ _ _ hx7
      have hc3 := cell_of_row W z7 3 _ _ _ hx7
      have hc4 := cell_of_row W z7 4 _ _ _ hx7
      have hc5 := cell_of_row W z7 5 _ _ _ hx7
      clear hk
      refine ⟨_, rfl, rfl, rfl, wp_value (v := .agg #[.int .i64 T.k, .bool T.b, .int .i64 T.n, .string T.s, .slice A.pa T.m A.pc, .slice A.na T.q A.nc]) (w' := W) ?_ ⟨_, rfl, Below.refl _ _, rfl⟩⟩
      go_simp
    . clear hiq
      have e0 : a.eval (.tmp 64) = .agg #[.int .i64 T.k, .bool T.b, .int .i64 T.n, .string T.s, .slice A.pa T.m A.pc, .slice A.na T.q A.nc] := hk 0 (mem_of (by kernel_rfl))
      have f0 := ev e0
      clear hk
      refine ⟨_, rfl, rfl, rfl, wp_enter (f := 17) (args := #[.agg #[.int .i64 T.k, .bool T.b, .int .i64 T.n, .string T.s, .slice A.pa T.m A.pc, .slice A.na T.q A.nc]]) ?_ ((kref W hb).mono ?_)⟩
      . go_simp
      . rintro e w2 ⟨⟨v, rfl, hv⟩, hb2⟩
        exact ⟨_, rfl, _, rfl, hb2, hv⟩
    . clear hiq
      obtain ⟨A1, e1, h1⟩ := show (RfT T) (a.eval (.tmp 65)) W from hk 1 (mem_of (by kernel_rfl))
      replace e1 : a.eval (.tmp 65) = .agg #[.int .i64 T.k, .bool T.b, .int .i64 T.n, .string T.s, .slice A1.pa T.m A1.pc, .slice A1.na T.q A1.nc] := e1
      have f1 := ev e1
      clear hk
      refine ⟨_, rfl, rfl, rfl, wp_enter (f := 18) (args := #[.agg #[.int .i64 T.k, .bool T.b, .int .i64 T.n, .string T.s, .slice A1.pa T.m A1.pc, .slice A1.na T.q A1.nc]]) ?_ ((kkey W A1 h1).mono ?_)⟩
      . go_simp
      . rintro e w2 ⟨rfl, hb2⟩
        exact ⟨_, rfl, _, rfl, hb2, rfl⟩
    . clear hiq
      have hc0 := cell_of_row W z7 0 _ _ _ hx7
      have hc1 := cell_of_row W z7 1 _ _ _ hx7
      have hc2 := cell_of_row W z7 2 _ _ _ hx7
      have hc3 := cell_of_row W z7 3 _ _ _ hx7
      have hc4 := cell_of_row W z7 4 _ _ _ hx7
      have hc5 := cell_of_row W z7 5 _ _ _ hx7
      clear hk
      refine ⟨_, rfl, rfl, rfl, wp_value (v := .agg #[.int .i64 T.k, .bool T.b, .int .i64 T.n, .string T.s, .slice A.pa T.m A.pc, .slice A.na T.q A.nc]) (w' := W) ?_ ⟨_, rfl, Below.refl _ _, rfl⟩⟩
      go_simp
    . clear hiq
      have hc0 := cell_of_row W z8 0 _ _ _ hx8
      have hc1 := cell_of_row W z8 1 _ _ _ hx8
      have hc2 := cell_of_row W z8 2 _ _ _ hx8
      have hc3 := cell_of_row W z8 3 _ _ _ hx8
      have hc4 := cell_of_row W z8 4 _ _ _ hx8
      have hc5 := cell_of_row W z8 5 _ _ _ hx8
      clear hk
      refine ⟨_, rfl, rfl, rfl, wp_value (v := .agg #[.int .i64 U.k, .bool U.b, .int .i64 U.n, .string U.s, .slice C.pa U.m C.pc, .slice C.na U.q C.nc]) (w' := W) ?_ ⟨_, rfl, Below.refl _ _, rfl⟩⟩
      go_simp
    . clear hiq
      have e3 : a.eval (.tmp 67) = .agg #[.int .i64 T.k, .bool T.b, .int .i64 T.n, .string T.s, .slice A.pa T.m A.pc, .slice A.na T.q A.nc] := hk 3 (mem_of (by kernel_rfl))
      have f3 := ev e3
      have e4 : a.eval (.tmp 68) = .agg #[.int .i64 U.k, .bool U.b, .int .i64 U.n, .string U.s, .slice C.pa U.m C.pc, .slice C.na U.q C.nc] := hk 4 (mem_of (by kernel_rfl))
      have f4 := ev e4
      clear hk
      refine ⟨_, rfl, rfl, rfl, wp_enter (f := 21) (args := #[.agg #[.int .i64 T.k, .bool T.b, .int .i64 T.n, .string T.s, .slice A.pa T.m A.pc, .slice A.na T.q A.nc], .agg #[.int .i64 U.k, .bool U.b, .int .i64 U.n, .string U.s, .slice C.pa U.m C.pc, .slice C.na U.q C.nc]]) ?_ ((kcmp W hb).mono ?_)⟩
      . go_simp
      . rintro e w2 ⟨rfl, hb2⟩
        exact ⟨_, rfl, _, rfl, hb2, rfl⟩
    . clear hiq
      have e2 : a.eval (.tmp 66) = .string ka := hk 2 (mem_of (by kernel_rfl))
      have f2 := ev e2
      clear hk
      refine ⟨_, rfl, rfl, rfl, wp_value (v := .string ka) (w' := W) ?_ ⟨_, rfl, Below.refl _ _, rfl⟩⟩
      go_simp
    . clear hiq
      have e5 : a.eval (.tmp 69) = .int .i64 cc1 := hk 5 (mem_of (by kernel_rfl))
      have f5 := ev e5
      clear hk
      refine ⟨_, rfl, rfl, rfl, wp_value (v := .int .i64 cc1) (w' := W) ?_ ⟨_, rfl, Below.refl _ _, rfl⟩⟩
      go_simp
  case post =>
    intro V1 W2 hbW hV
    have v6 : V1 6 = .string ka := hV 6 (by omega)
    have v7 : V1 7 = .int .i64 cc1 := hV 7 (by omega)
    have H6 : Hid (Below w.heap.size w W2) := H5.out.1.bel.trans (hbW.mono H5.out.1.bel.size)
    have r9 := Below.row hbW H5.out.2.1
    have p0 := cell_of_row W2 _ 0 _ _ _ r9
    have p1 := cell_of_row W2 _ 1 _ _ _ r9
    clear hV hbW q7 q8 kref kcmp kkey H5 KC KK KR r9
    simp only [putAll, reduceIte, Nat.reduceLT, Nat.reduceAdd]
    rw [v6, v7]
    simp only [Act.put, List.setIfInBounds_toArray, List.set_cons_zero, List.set_cons_succ]
    change wpList _ _ _ [] _ _
    rcases x1 with _ | _ <;> rcases x2 with _ | _
    all_goals
      obtain ⟨D1, D2⟩ := HX.out
      simp only [decide_eq_true_eq, decide_eq_false_iff_not] at D1 D2
    . have HD : Hid (0 < cc1) := by show 0 < cc1; omega
      clear D1 D2 HX
      go_wp2
      all_goals
        go_ret
        have := HD.out
        refine ⟨?_, H6.out⟩
        try simp
        try omega
    . have HD : cc1 = 0 := by omega
      subst HD
      clear D1 D2 HX
      go_wp2
      go_ret
      exact ⟨rfl, H6.out⟩
    . exact absurd D2 (by omega)
    . have HD : Hid (cc1 < 0) := by show cc1 < 0; omega
      clear D1 D2 HX
      go_wp2
      all_goals
        go_ret
        have := HD.out
        refine ⟨?_, H6.out⟩
        try simp
        try omega
end Go.Proofs.YtfemippjaokcmaaGreatDoor
namespace Go.Proofs.YtfemippjaokcmaaGreatDoor
open Go.RowKit Go.Shelf
attribute [local go_sem] Oper.semAt_some fw0 fw1 fw2 eql33t
set_option maxRecDepth 100000 in
set_option maxHeartbeats 8000000 in
theorem sp_lt {w W : World} {T U : V.Tr} {A C : V.Ad} {z7 z8 : Nat} (hM : SpW w W T U A C z7 z8) (hT : SpT T U) (he : Ev w) (hg : V.Gm w) (y0 y1 y3 y4 y5 y6 y9 y10 y11 y12 y13 y14 y15 y16 y17 y18 y19 y20 y21 y22 y23 y24 y25 y26 y27 y28 y29 y30 y31 y32 y33 y34 y35 y36 y37 y38 y39 y40 y41 y42 y43 y44 y45 y46 y47 y48 y49 y50 y51 y52 y53 y54 y55 y56 y57 y58 y59 y60 y61 y62 y63 y64 y65 y66 y67 y68 y69 y70 y71 y72 y73 y74 y75 y76 y77 y78 y79 y80 y81 y82 y83 y84 y85 y86 y87 y88 y89 y90 y91 y92 y93 y94 y95 y96 y97 y98 y99 y100 y101 y102 y103 y104 y105 y106 y107 y108 y109 y110 y111 y112 y113 : Value) (cc : Code) (hcc : cutSd Tryz.f5.body = some cc) :
    Code.wp Tryz.prog cc (bodyPost Tryz.prog Tryz.f5 (fun e w' => e = .returned (.bool true) /\ Below w.heap.size w w')) ⟨List.toArray (y0 :: y1 :: .string ⟨#[60]⟩ :: y3 :: y4 :: y5 :: y6 :: .pointer (some ⟨z7, 0, none⟩) :: .pointer (some ⟨z8, 0, none⟩) :: y9 :: y10 :: y11 :: y12 :: y13 :: y14 :: y15 :: y16 :: y17 :: y18 :: y19 :: y20 :: y21 :: y22 :: y23 :: y24 :: y25 :: y26 :: y27 :: y28 :: y29 :: y30 :: y31 :: y32 :: y33 :: y34 :: y35 :: y36 :: y37 :: y38 :: y39 :: y40 :: y41 :: y42 :: y43 :: y44 :: y45 :: y46 :: y47 :: y48 :: y49 :: y50 :: y51 :: y52 :: y53 :: y54 :: y55 :: y56 :: y57 :: y58 :: y59 :: y60 :: y61 :: y62 :: y63 :: y64 :: y65 :: y66 :: y67 :: y68 :: y69 :: y70 :: y71 :: y72 :: y73 :: y74 :: y75 :: y76 :: y77 :: y78 :: y79 :: y80 :: y81 :: y82 :: y83 :: y84 :: y85 :: y86 :: y87 :: y88 :: y89 :: y90 :: y91 :: y92 :: y93 :: y94 :: y95 :: y96 :: y97 :: y98 :: y99 :: y100 :: y101 :: y102 :: y103 :: y104 :: y105 :: y106 :: y107 :: y108 :: y109 :: y110 :: y111 :: y112 :: y113 :: []), []⟩ W := by
  obtain rfl := Option.some.inj ((show cutSd Tryz.f5.body = some _ from rfl).symm.trans hcc)
  clear hcc
  have hlU := hM.lU
  have ks := span_any ⟨#[60]⟩ (k := U.k) (b := U.b) (n := U.n) (s := U.s) (pa := C.pa) (m := U.m) (pc := C.pc) (na := C.na) (q := U.q) (nc := C.nc) (w := W) (K := kyB U) (by have := ky_len hT.cU; unfold maxLen; omega) (fun W2 hb2 => V.of_ok hT.cU hT.mU (hg.later (hM.bel.trans (hb2.mono hM.bel.size)) hg.pos) ((V.Lies.later hb2 hlU).up hb2.size) (Nat.le_refl _))
  have hsp : spanF ((⟨#[60]⟩ : ByteArray).data.toList) (kyB U) = (⟨#[]⟩, kyB U, true) := by
    unfold spanF
    simp
  rw [hsp] at ks
  have f1 := hT.sf.lt
  have f2 := hT.sf.nx
  have f3 := hT.sf.e1
  have f4 := hT.sf.e2
  have f5 := empty_eq f3
  have f6 := empty_eq f4
  have kcmp0 : ∀ W2, Below W.heap.size W W2 -> Calls Tryz.prog 21 #[.agg #[.int .i64 T.k, .bool T.b, .int .i64 T.n, .string T.s, .slice A.pa T.m A.pc, .slice A.na T.q A.nc], .agg #[.int .i64 U.k, .bool U.b, .int .i64 U.n, .string U.s, .slice C.pa U.m C.pc, .slice C.na U.q C.nc]] W2 fun e w' => e = .returned (.int .i64 (V.cmpT T U)) /\ Below W2.heap.size W2 w' := fun W2 hb => V.cmp_all T U W2.heap.size W2 A C ((V.Lies.later hb hM.lT).up hb.size) ((V.Lies.later hb hM.lU).up hb.size) (Nat.le_refl _)
  have kkey0 : ∀ (W2 : World) (A1 : V.Ad), V.Lies W2.heap.size W2 T A1 -> Calls Tryz.prog 18 #[.agg #[.int .i64 T.k, .bool T.b, .int .i64 T.n, .string T.s, .slice A1.pa T.m A1.pc, .slice A1.na T.q A1.nc]] W2 fun e w' => e = .returned (.string (kyB T)) /\ Below W2.heap.size W2 w' := fun W2 A1 h => V.key_ok hT.cT hT.mT h (Nat.le_refl _)
  have KR := mkHid (ref_t hT.sT hM.lT)
  obtain ⟨kb, hkb⟩ : ∃ x, kyB U = x := ⟨_, rfl⟩
  obtain ⟨nb, hnb⟩ : ∃ x, V.nextB (kyB U) = x := ⟨_, rfl⟩
  rw [hnb] at f2 f4 f6
  rw [hkb] at f1 f3 f5 ks
  obtain ⟨ka, hka⟩ : ∃ x, kyB T = x := ⟨_, rfl⟩
  rw [hka] at f1 f2 kkey0
  obtain ⟨cc1, hcc1⟩ : ∃ x, V.cmpT T U = x := ⟨_, rfl⟩
  rw [hcc1] at kcmp0 f1 f2
  obtain ⟨x1, hx1⟩ : ∃ x, decide (cc1 < 0) = x := ⟨_, rfl⟩
  obtain ⟨x2, hx2⟩ : ∃ x, decide (cc1 <= 0) = x := ⟨_, rfl⟩
  rw [hx1] at f1
  rw [hx2] at f2
  have HX := mkHid (And.intro hx1 hx2)
  have f7 : Op.bytesLess ka.toList [] = false := V.lt8_nil_r ka.toList
  have KC := mkHid kcmp0
  have KK := mkHid kkey0
  have H0 := mkHid hM
  have HE := mkHid he
  have HG := mkHid hg
  have q70 := hM.r7
  have q80 := hM.r8
  have d0 := cell_of_row W _ 0 _ _ _ q80
  have d1 := cell_of_row W _ 1 _ _ _ q80
  have d2 := cell_of_row W _ 2 _ _ _ q80
  have d3 := cell_of_row W _ 3 _ _ _ q80
  have d4 := cell_of_row W _ 4 _ _ _ q80
  have d5 := cell_of_row W _ 5 _ _ _ q80
  clear hM hT he hg hsp hkb hnb hka hcc1 hlU hx1 hx2 kcmp0 kkey0 q70 q80
  go_wp2_with fail
  refine ks.mono ?_
  rintro e w3 ⟨rfl, hb3⟩
  obtain ⟨w4, hw4⟩ : ∃ u, w3.alloc (.cells #[.string ⟨#[]⟩, .string kb] 33) = u := ⟨_, rfl⟩
  obtain ⟨r4, hb4⟩ := alloc1 hw4
  have HW4 := mkHid hw4
  have hb04 : Below W.heap.size W w4 := hb3.trans (hb4.mono hb3.size)
  have H4 : Hid (SpW w w4 T U A C z7 z8 /\ w4.heap[w3.heap.size]? = some (.cells #[.string ⟨#[]⟩, .string kb] 33 (0, 0)) /\ Below W.heap.size W w4) := ⟨H0.out.later hb04, r4, hb04⟩
  have ka1 := awake_any w4 (HE.out.later H4.out.1.bel) (HG.out.later H4.out.1.bel HG.out.pos)
  clear ks hb3 hw4 hb4 hb04 r4 d0 d1 d2 d3 d4 d5 H0
  go_wp2_with (first | rw [HW4.out] | fail)
  obtain ⟨z9, hz9⟩ : ∃ z, w3.heap.size = z := ⟨_, rfl⟩
  rw [hz9] at H4 ⊢
  clear hz9 HW4
  refine ka1.mono ?_
  rintro e w5 ⟨rfl, hb5⟩
  have H5 : Hid (SpW w w5 T U A C z7 z8 /\ w5.heap[z9]? = some (.cells #[.string ⟨#[]⟩, .string kb] 33 (0, 0)) /\ Below W.heap.size W w5) := ⟨H4.out.1.later hb5, Below.row hb5 H4.out.2.1, H4.out.2.2.trans (hb5.mono H4.out.2.2.size)⟩
  clear ka1 hb5 H4
  go_wp2_with fail
  have q7 := H5.out.1.r7
  have q8 := H5.out.1.r8
  have kref : ∀ W2, Below w5.heap.size w5 W2 -> _ := fun W2 hb => KR.out W2 (H5.out.2.2.trans (hb.mono H5.out.2.2.size))
  have kcmp : ∀ W2, Below w5.heap.size w5 W2 -> _ := fun W2 hb => KC.out W2 (H5.out.2.2.trans (hb.mono H5.out.2.2.size))
  have kkey := KK.out
  refine any_tail (by kernel_rfl) 8 (by exact Nat.le_of_ble_eq_true rfl) (fun i => if i < 6 then i + 64 else i + 6) (mixR [(1, (RfT T))] [.agg #[.int .i64 T.k, .bool T.b, .int .i64 T.n, .string T.s, .slice A.pa T.m A.pc, .slice A.na T.q A.nc], undef, .string ka, .agg #[.int .i64 T.k, .bool T.b, .int .i64 T.n, .string T.s, .slice A.pa T.m A.pc, .slice A.na T.q A.nc], .agg #[.int .i64 U.k, .bool U.b, .int .i64 U.n, .string U.s, .slice C.pa U.m C.pc, .slice C.na U.q C.nc], .int .i64 cc1, .string ka, .int .i64 cc1]) (by kernel_rfl) (by kernel_rfl) (by kernel_rfl) (by kernel_rfl) (mixR_later _ _ (stab_cons (RfT.later) (stab_nil))) ?step ?post
  case step =>
    intro iq hiq a W hrest hb hk
    have hp7 : a.eval (.tmp 7) = .pointer (some ⟨z7, 0, none⟩) := (hrest 7 (by intro iq2 hiq2; (repeat' split) <;> omega)).trans rfl
    have fp7 := ev hp7
    have hx7 : W.heap[z7]? = some (.cells #[.int .i64 T.k, .bool T.b, .int .i64 T.n, .string T.s, .slice A.pa T.m A.pc, .slice A.na T.q A.nc] 25 (0, 0)) := (hb.block _ (lt_of_row q7)).trans q7
    have hp8 : a.eval (.tmp 8) = .pointer (some ⟨z8, 0, none⟩) := (hrest 8 (by intro iq2 hiq2; (repeat' split) <;> omega)).trans rfl
    have fp8 := ev hp8
    have hx8 : W.heap[z8]? = some (.cells #[.int .i64 U.k, .bool U.b, .int .i64 U.n, .string U.s, .slice C.pa U.m C.pc, .slice C.na U.q C.nc] 25 (0, 0)) := (hb.block _ (lt_of_row q8)).trans q8
    clear hrest
    obtain rfl | rfl | rfl | rfl | rfl | rfl | rfl | rfl : iq = 0 ∨ iq = 1 ∨ iq = 2 ∨ iq = 3 ∨ iq = 4 ∨ iq = 5 ∨ iq = 6 ∨ iq = 7 := by omega
    . clear hiq
      have hc0 := cell_of_row W z7 0 _ _ _ hx7
      have hc1 := cell_of_row W z7 1 _ _ _ hx7
      have hc2 := cell_of_row W z7 2 _ _ _ hx7
      have hc3 := cell_of_row W z7 3 _ _ _ hx7
      have hc4 := cell_of_row W z7 4 _ _ _ hx7
      have hc5 := cell_of_row W z7 5 _ _ _ hx7
      clear hk
      refine ⟨_, rfl, rfl, rfl, wp_value (v := .agg #[.int .i64 T.k, .bool T.b, .int .i64 T.n, .string T.s, .slice A.pa T.m A.pc, .slice A.na T.q A.nc]) (w' := W) ?_ ⟨_, rfl, Below.refl _ _, rfl⟩⟩
      go_simp
    . clear hiq
      have e0 : a.eval (.tmp 64) = .agg #[.int .i64 T.k, .bool T.b, .int .i64 T.n, .string T.s, .slice A.pa T.m A.pc, .slice A.na T.q A.nc] := hk 0 (mem_of (by kernel_rfl))
      have f0 := ev e0
      clear hk
      refine ⟨_, rfl, rfl, rfl, wp_enter (f := 17) (args := #[.agg #[.int .i64 T.k, .bool T.b, .int .i64 T.n, .string T.s, .slice A.pa T.m A.pc, .slice A.na T.q A.nc]]) ?_ ((kref W hb).mono ?_)⟩
      . go_simp
      . rintro e w2 ⟨⟨v, rfl, hv⟩, hb2⟩
        exact ⟨_, rfl, _, rfl, hb2, hv⟩
    . clear hiq
      obtain ⟨A1, e1, h1⟩ := show (RfT T) (a.eval (.tmp 65)) W from hk 1 (mem_of (by kernel_rfl))
      replace e1 : a.eval (.tmp 65) = .agg #[.int .i64 T.k, .bool T.b, .int .i64 T.n, .string T.s, .slice A1.pa T.m A1.pc, .slice A1.na T.q A1.nc] := e1
      have f1 := ev e1
      clear hk
      refine ⟨_, rfl, rfl, rfl, wp_enter (f := 18) (args := #[.agg #[.int .i64 T.k, .bool T.b, .int .i64 T.n, .string T.s, .slice A1.pa T.m A1.pc, .slice A1.na T.q A1.nc]]) ?_ ((kkey W A1 h1).mono ?_)⟩
      . go_simp
      . rintro e w2 ⟨rfl, hb2⟩
        exact ⟨_, rfl, _, rfl, hb2, rfl⟩
    . clear hiq
      have hc0 := cell_of_row W z7 0 _ _ _ hx7
      have hc1 := cell_of_row W z7 1 _ _ _ hx7
      have hc2 := cell_of_row W z7 2 _ _ _ hx7
      have hc3 := cell_of_row W z7 3 _ _ _ hx7
      have hc4 := cell_of_row W z7 4 _ _ _ hx7
      have hc5 := cell_of_row W z7 5 _ _ _ hx7
      clear hk
      refine ⟨_, rfl, rfl, rfl, wp_value (v := .agg #[.int .i64 T.k, .bool T.b, .int .i64 T.n, .string T.s, .slice A.pa T.m A.pc, .slice A.na T.q A.nc]) (w' := W) ?_ ⟨_, rfl, Below.refl _ _, rfl⟩⟩
      go_simp
    . clear hiq
      have hc0 := cell_of_row W z8 0 _ _ _ hx8
      have hc1 := cell_of_row W z8 1 _ _ _ hx8
      have hc2 := cell_of_row W z8 2 _ _ _ hx8
      have hc3 := cell_of_row W z8 3 _ _ _ hx8
      have hc4 := cell_of_row W z8 4 _ _ _ hx8
      have hc5 := cell_of_row W z8 5 _ _ _ hx8
      clear hk
      refine ⟨_, rfl, rfl, rfl, wp_value (v := .agg #[.int .i64 U.k, .bool U.b, .int .i64 U.n, .string U.s, .slice C.pa U.m C.pc, .slice C.na U.q C.nc]) (w' := W) ?_ ⟨_, rfl, Below.refl _ _, rfl⟩⟩
      go_simp
    . clear hiq
      have e3 : a.eval (.tmp 67) = .agg #[.int .i64 T.k, .bool T.b, .int .i64 T.n, .string T.s, .slice A.pa T.m A.pc, .slice A.na T.q A.nc] := hk 3 (mem_of (by kernel_rfl))
      have f3 := ev e3
      have e4 : a.eval (.tmp 68) = .agg #[.int .i64 U.k, .bool U.b, .int .i64 U.n, .string U.s, .slice C.pa U.m C.pc, .slice C.na U.q C.nc] := hk 4 (mem_of (by kernel_rfl))
      have f4 := ev e4
      clear hk
      refine ⟨_, rfl, rfl, rfl, wp_enter (f := 21) (args := #[.agg #[.int .i64 T.k, .bool T.b, .int .i64 T.n, .string T.s, .slice A.pa T.m A.pc, .slice A.na T.q A.nc], .agg #[.int .i64 U.k, .bool U.b, .int .i64 U.n, .string U.s, .slice C.pa U.m C.pc, .slice C.na U.q C.nc]]) ?_ ((kcmp W hb).mono ?_)⟩
      . go_simp
      . rintro e w2 ⟨rfl, hb2⟩
        exact ⟨_, rfl, _, rfl, hb2, rfl⟩
    . clear hiq
      have e2 : a.eval (.tmp 66) = .string ka := hk 2 (mem_of (by kernel_rfl))
      have f2 := ev e2
      clear hk
      refine ⟨_, rfl, rfl, rfl, wp_value (v := .string ka) (w' := W) ?_ ⟨_, rfl, Below.refl _ _, rfl⟩⟩
      go_simp
    . clear hiq
      have e5 : a.eval (.tmp 69) = .int .i64 cc1 := hk 5 (mem_of (by kernel_rfl))
      have f5 := ev e5
      clear hk
      refine ⟨_, rfl, rfl, rfl, wp_value (v := .int .i64 cc1) (w' := W) ?_ ⟨_, rfl, Below.refl _ _, rfl⟩⟩
      go_simp
  case post =>
    intro V1 W2 hbW hV
    have v6 : V1 6 = .string ka := hV 6 (by omega)
    have v7 : V1 7 = .int .i64 cc1 := hV 7 (by omega)
    have H6 : Hid (Below w.heap.size w W2) := H5.out.1.bel.trans (hbW.mono H5.out.1.bel.size)
    have r9 := Below.row hbW H5.out.2.1
    have p0 := cell_of_row W2 _ 0 _ _ _ r9
    have p1 := cell_of_row W2 _ 1 _ _ _ r9
    clear hV hbW q7 q8 kref kcmp kkey H5 KC KK KR r9
    simp only [putAll, reduceIte, Nat.reduceLT, Nat.reduceAdd]
    rw [v6, v7]
    simp only [Act.put, List.setIfInBounds_toArray, List.set_cons_zero, List.set_cons_succ]
    change wpList _ _ _ [] _ _
    rcases x1 with _ | _ <;> rcases x2 with _ | _
    all_goals
      obtain ⟨D1, D2⟩ := HX.out
      simp only [decide_eq_true_eq, decide_eq_false_iff_not] at D1 D2
    . have HD : Hid (0 < cc1) := by show 0 < cc1; omega
      clear D1 D2 HX
      go_wp2
      all_goals
        go_ret
        have := HD.out
        refine ⟨?_, H6.out⟩
        try simp
        try omega
    . have HD : cc1 = 0 := by omega
      subst HD
      clear D1 D2 HX
      go_wp2
      go_ret
      exact ⟨rfl, H6.out⟩
    . exact absurd D2 (by omega)
    . have HD : Hid (cc1 < 0) := by show cc1 < 0; omega
      clear D1 D2 HX
      go_wp2
      all_goals
        go_ret
        have := HD.out
        refine ⟨?_, H6.out⟩
        try simp
        try omega
end Go.Proofs.YtfemippjaokcmaaGreatDoor
namespace Go.Proofs.YtfemippjaokcmaaGreatDoor
open Go.RowKit Go.Shelf
attribute [local go_sem] Oper.semAt_some fw0 fw1 fw2 eql33t
set_option maxRecDepth 100000 in
set_option maxHeartbeats 8000000 in
theorem sp_le {w W : World} {T U : V.Tr} {A C : V.Ad} {z7 z8 : Nat} (hM : SpW w W T U A C z7 z8) (hT : SpT T U) (he : Ev w) (hg : V.Gm w) (y0 y1 y3 y4 y5 y6 y9 y10 y11 y12 y13 y14 y15 y16 y17 y18 y19 y20 y21 y22 y23 y24 y25 y26 y27 y28 y29 y30 y31 y32 y33 y34 y35 y36 y37 y38 y39 y40 y41 y42 y43 y44 y45 y46 y47 y48 y49 y50 y51 y52 y53 y54 y55 y56 y57 y58 y59 y60 y61 y62 y63 y64 y65 y66 y67 y68 y69 y70 y71 y72 y73 y74 y75 y76 y77 y78 y79 y80 y81 y82 y83 y84 y85 y86 y87 y88 y89 y90 y91 y92 y93 y94 y95 y96 y97 y98 y99 y100 y101 y102 y103 y104 y105 y106 y107 y108 y109 y110 y111 y112 y113 : Value) (cc : Code) (hcc : cutSd Tryz.f5.body = some cc) :
    Code.wp Tryz.prog cc (bodyPost Tryz.prog Tryz.f5 (fun e w' => e = .returned (.bool true) /\ Below w.heap.size w w')) ⟨List.toArray (y0 :: y1 :: .string ⟨#[60, 61]⟩ :: y3 :: y4 :: y5 :: y6 :: .pointer (some ⟨z7, 0, none⟩) :: .pointer (some ⟨z8, 0, none⟩) :: y9 :: y10 :: y11 :: y12 :: y13 :: y14 :: y15 :: y16 :: y17 :: y18 :: y19 :: y20 :: y21 :: y22 :: y23 :: y24 :: y25 :: y26 :: y27 :: y28 :: y29 :: y30 :: y31 :: y32 :: y33 :: y34 :: y35 :: y36 :: y37 :: y38 :: y39 :: y40 :: y41 :: y42 :: y43 :: y44 :: y45 :: y46 :: y47 :: y48 :: y49 :: y50 :: y51 :: y52 :: y53 :: y54 :: y55 :: y56 :: y57 :: y58 :: y59 :: y60 :: y61 :: y62 :: y63 :: y64 :: y65 :: y66 :: y67 :: y68 :: y69 :: y70 :: y71 :: y72 :: y73 :: y74 :: y75 :: y76 :: y77 :: y78 :: y79 :: y80 :: y81 :: y82 :: y83 :: y84 :: y85 :: y86 :: y87 :: y88 :: y89 :: y90 :: y91 :: y92 :: y93 :: y94 :: y95 :: y96 :: y97 :: y98 :: y99 :: y100 :: y101 :: y102 :: y103 :: y104 :: y105 :: y106 :: y107 :: y108 :: y109 :: y110 :: y111 :: y112 :: y113 :: []), []⟩ W := by
  obtain rfl := Option.some.inj ((show cutSd Tryz.f5.body = some _ from rfl).symm.trans hcc)
  clear hcc
  have hlU := hM.lU
  have ks := span_any ⟨#[60, 61]⟩ (k := U.k) (b := U.b) (n := U.n) (s := U.s) (pa := C.pa) (m := U.m) (pc := C.pc) (na := C.na) (q := U.q) (nc := C.nc) (w := W) (K := kyB U) (by have := ky_len hT.cU; unfold maxLen; omega) (fun W2 hb2 => V.of_ok hT.cU hT.mU (hg.later (hM.bel.trans (hb2.mono hM.bel.size)) hg.pos) ((V.Lies.later hb2 hlU).up hb2.size) (Nat.le_refl _))
  have hsp : spanF ((⟨#[60, 61]⟩ : ByteArray).data.toList) (kyB U) = (⟨#[]⟩, V.nextB (kyB U), true) := by
    unfold spanF
    simp
  rw [hsp] at ks
  have f1 := hT.sf.lt
  have f2 := hT.sf.nx
  have f3 := hT.sf.e1
  have f4 := hT.sf.e2
  have f5 := empty_eq f3
  have f6 := empty_eq f4
  have kcmp0 : ∀ W2, Below W.heap.size W W2 -> Calls Tryz.prog 21 #[.agg #[.int .i64 T.k, .bool T.b, .int .i64 T.n, .string T.s, .slice A.pa T.m A.pc, .slice A.na T.q A.nc], .agg #[.int .i64 U.k, .bool U.b, .int .i64 U.n, .string U.s, .slice C.pa U.m C.pc, .slice C.na U.q C.nc]] W2 fun e w' => e = .returned (.int .i64 (V.cmpT T U)) /\ Below W2.heap.size W2 w' := fun W2 hb => V.cmp_all T U W2.heap.size W2 A C ((V.Lies.later hb hM.lT).up hb.size) ((V.Lies.later hb hM.lU).up hb.size) (Nat.le_refl _)
  have kkey0 : ∀ (W2 : World) (A1 : V.Ad), V.Lies W2.heap.size W2 T A1 -> Calls Tryz.prog 18 #[.agg #[.int .i64 T.k, .bool T.b, .int .i64 T.n, .string T.s, .slice A1.pa T.m A1.pc, .slice A1.na T.q A1.nc]] W2 fun e w' => e = .returned (.string (kyB T)) /\ Below W2.heap.size W2 w' := fun W2 A1 h => V.key_ok hT.cT hT.mT h (Nat.le_refl _)
  have KR := mkHid (ref_t hT.sT hM.lT)
  obtain ⟨kb, hkb⟩ : ∃ x, kyB U = x := ⟨_, rfl⟩
  obtain ⟨nb, hnb⟩ : ∃ x, V.nextB (kyB U) = x := ⟨_, rfl⟩
  rw [hnb] at f2 f4 f6 ks
  rw [hkb] at f1 f3 f5
  obtain ⟨ka, hka⟩ : ∃ x, kyB T = x := ⟨_, rfl⟩
  rw [hka] at f1 f2 kkey0
  obtain ⟨cc1, hcc1⟩ : ∃ x, V.cmpT T U = x := ⟨_, rfl⟩
  rw [hcc1] at kcmp0 f1 f2
  obtain ⟨x1, hx1⟩ : ∃ x, decide (cc1 < 0) = x := ⟨_, rfl⟩
  obtain ⟨x2, hx2⟩ : ∃ x, decide (cc1 <= 0) = x := ⟨_, rfl⟩
  rw [hx1] at f1
  rw [hx2] at f2
  have HX := mkHid (And.intro hx1 hx2)
  have f7 : Op.bytesLess ka.toList [] = false := V.lt8_nil_r ka.toList
  have KC := mkHid kcmp0
  have KK := mkHid kkey0
  have H0 := mkHid hM
  have HE := mkHid he
  have HG := mkHid hg
  have q70 := hM.r7
  have q80 := hM.r8
  have d0 := cell_of_row W _ 0 _ _ _ q80
  have d1 := cell_of_row W _ 1 _ _ _ q80
  have d2 := cell_of_row W _ 2 _ _ _ q80
  have d3 := cell_of_row W _ 3 _ _ _ q80
  have d4 := cell_of_row W _ 4 _ _ _ q80
  have d5 := cell_of_row W _ 5 _ _ _ q80
  clear hM hT he hg hsp hkb hnb hka hcc1 hlU hx1 hx2 kcmp0 kkey0 q70 q80
  go_wp2_with fail
  refine ks.mono ?_
  rintro e w3 ⟨rfl, hb3⟩
  obtain ⟨w4, hw4⟩ : ∃ u, w3.alloc (.cells #[.string ⟨#[]⟩, .string nb] 33) = u := ⟨_, rfl⟩
  obtain ⟨r4, hb4⟩ := alloc1 hw4
  have HW4 := mkHid hw4
  have hb04 : Below W.heap.size W w4 := hb3.trans (hb4.mono hb3.size)
  have H4 : Hid (SpW w w4 T U A C z7 z8 /\ w4.heap[w3.heap.size]? = some (.cells #[.string ⟨#[]⟩, .string nb] 33 (0, 0)) /\ Below W.heap.size W w4) := ⟨H0.out.later hb04, r4, hb04⟩
  have ka1 := awake_any w4 (HE.out.later H4.out.1.bel) (HG.out.later H4.out.1.bel HG.out.pos)
  clear ks hb3 hw4 hb4 hb04 r4 d0 d1 d2 d3 d4 d5 H0
  go_wp2_with (first | rw [HW4.out] | fail)
  obtain ⟨z9, hz9⟩ : ∃ z, w3.heap.size = z := ⟨_, rfl⟩
  rw [hz9] at H4 ⊢
  clear hz9 HW4
  refine ka1.mono ?_
  rintro e w5 ⟨rfl, hb5⟩
  have H5 : Hid (SpW w w5 T U A C z7 z8 /\ w5.heap[z9]? = some (.cells #[.string ⟨#[]⟩, .string nb] 33 (0, 0)) /\ Below W.heap.size W w5) := ⟨H4.out.1.later hb5, Below.row hb5 H4.out.2.1, H4.out.2.2.trans (hb5.mono H4.out.2.2.size)⟩
  clear ka1 hb5 H4
  go_wp2_with fail
  have q7 := H5.out.1.r7
  have q8 := H5.out.1.r8
  have kref : ∀ W2, Below w5.heap.size w5 W2 -> _ := fun W2 hb => KR.out W2 (H5.out.2.2.trans (hb.mono H5.out.2.2.size))
  have kcmp : ∀ W2, Below w5.heap.size w5 W2 -> _ := fun W2 hb => KC.out W2 (H5.out.2.2.trans (hb.mono H5.out.2.2.size))
  have kkey := KK.out
  refine any_tail (by kernel_rfl) 8 (by exact Nat.le_of_ble_eq_true rfl) (fun i => if i < 6 then i + 64 else i + 6) (mixR [(1, (RfT T))] [.agg #[.int .i64 T.k, .bool T.b, .int .i64 T.n, .string T.s, .slice A.pa T.m A.pc, .slice A.na T.q A.nc], undef, .string ka, .agg #[.int .i64 T.k, .bool T.b, .int .i64 T.n, .string T.s, .slice A.pa T.m A.pc, .slice A.na T.q A.nc], .agg #[.int .i64 U.k, .bool U.b, .int .i64 U.n, .string U.s, .slice C.pa U.m C.pc, .slice C.na U.q C.nc], .int .i64 cc1, .string ka, .int .i64 cc1]) (by kernel_rfl) (by kernel_rfl) (by kernel_rfl) (by kernel_rfl) (mixR_later _ _ (stab_cons (RfT.later) (stab_nil))) ?step ?post
  case step =>
    intro iq hiq a W hrest hb hk
    have hp7 : a.eval (.tmp 7) = .pointer (some ⟨z7, 0, none⟩) := (hrest 7 (by intro iq2 hiq2; (repeat' split) <;> omega)).trans rfl
    have fp7 := ev hp7
    have hx7 : W.heap[z7]? = some (.cells #[.int .i64 T.k, .bool T.b, .int .i64 T.n, .string T.s, .slice A.pa T.m A.pc, .slice A.na T.q A.nc] 25 (0, 0)) := (hb.block _ (lt_of_row q7)).trans q7
    have hp8 : a.eval (.tmp 8) = .pointer (some ⟨z8, 0, none⟩) := (hrest 8 (by intro iq2 hiq2; (repeat' split) <;> omega)).trans rfl
    have fp8 := ev hp8
    have hx8 : W.heap[z8]? = some (.cells #[.int .i64 U.k, .bool U.b, .int .i64 U.n, .string U.s, .slice C.pa U.m C.pc, .slice C.na U.q C.nc] 25 (0, 0)) := (hb.block _ (lt_of_row q8)).trans q8
    clear hrest
    obtain rfl | rfl | rfl | rfl | rfl | rfl | rfl | rfl : iq = 0 ∨ iq = 1 ∨ iq = 2 ∨ iq = 3 ∨ iq = 4 ∨ iq = 5 ∨ iq = 6 ∨ iq = 7 := by omega
    . clear hiq
      have hc0 := cell_of_row W z7 0 _ _ _ hx7
      have hc1 := cell_of_row W z7 1 _ _ _ hx7
      have hc2 := cell_of_row W z7 2 _ _ _ hx7
      have hc3 := cell_of_row W z7 3 _ _ _ hx7
      have hc4 := cell_of_row W z7 4 _ _ _ hx7
      have hc5 := cell_of_row W z7 5 _ _ _ hx7
      clear hk
      refine ⟨_, rfl, rfl, rfl, wp_value (v := .agg #[.int .i64 T.k, .bool T.b, .int .i64 T.n, .string T.s, .slice A.pa T.m A.pc, .slice A.na T.q A.nc]) (w' := W) ?_ ⟨_, rfl, Below.refl _ _, rfl⟩⟩
      go_simp
    . clear hiq
      have e0 : a.eval (.tmp 64) = .agg #[.int .i64 T.k, .bool T.b, .int .i64 T.n, .string T.s, .slice A.pa T.m A.pc, .slice A.na T.q A.nc] := hk 0 (mem_of (by kernel_rfl))
      have f0 := ev e0
      clear hk
      refine ⟨_, rfl, rfl, rfl, wp_enter (f := 17) (args := #[.agg #[.int .i64 T.k, .bool T.b, .int .i64 T.n, .string T.s, .slice A.pa T.m A.pc, .slice A.na T.q A.nc]]) ?_ ((kref W hb).mono ?_)⟩
      . go_simp
      . rintro e w2 ⟨⟨v, rfl, hv⟩, hb2⟩
        exact ⟨_, rfl, _, rfl, hb2, hv⟩
    . clear hiq
      obtain ⟨A1, e1, h1⟩ := show (RfT T) (a.eval (.tmp 65)) W from hk 1 (mem_of (by kernel_rfl))
      replace e1 : a.eval (.tmp 65) = .agg #[.int .i64 T.k, .bool T.b, .int .i64 T.n, .string T.s, .slice A1.pa T.m A1.pc, .slice A1.na T.q A1.nc] := e1
      have f1 := ev e1
      clear hk
      refine ⟨_, rfl, rfl, rfl, wp_enter (f := 18) (args := #[.agg #[.int .i64 T.k, .bool T.b, .int .i64 T.n, .string T.s, .slice A1.pa T.m A1.pc, .slice A1.na T.q A1.nc]]) ?_ ((kkey W A1 h1).mono ?_)⟩
      . go_simp
      . rintro e w2 ⟨rfl, hb2⟩
        exact ⟨_, rfl, _, rfl, hb2, rfl⟩
    . clear hiq
      have hc0 := cell_of_row W z7 0 _ _ _ hx7
      have hc1 := cell_of_row W z7 1 _ _ _ hx7
      have hc2 := cell_of_row W z7 2 _ _ _ hx7
      have hc3 := cell_of_row W z7 3 _ _ _ hx7
      have hc4 := cell_of_row W z7 4 _ _ _ hx7
      have hc5 := cell_of_row W z7 5 _ _ _ hx7
      clear hk
      refine ⟨_, rfl, rfl, rfl, wp_value (v := .agg #[.int .i64 T.k, .bool T.b, .int .i64 T.n, .string T.s, .slice A.pa T.m A.pc, .slice A.na T.q A.nc]) (w' := W) ?_ ⟨_, rfl, Below.refl _ _, rfl⟩⟩
      go_simp
    . clear hiq
      have hc0 := cell_of_row W z8 0 _ _ _ hx8
      have hc1 := cell_of_row W z8 1 _ _ _ hx8
      have hc2 := cell_of_row W z8 2 _ _ _ hx8
      have hc3 := cell_of_row W z8 3 _ _ _ hx8
      have hc4 := cell_of_row W z8 4 _ _ _ hx8
      have hc5 := cell_of_row W z8 5 _ _ _ hx8
      clear hk
      refine ⟨_, rfl, rfl, rfl, wp_value (v := .agg #[.int .i64 U.k, .bool U.b, .int .i64 U.n, .string U.s, .slice C.pa U.m C.pc, .slice C.na U.q C.nc]) (w' := W) ?_ ⟨_, rfl, Below.refl _ _, rfl⟩⟩
      go_simp
    . clear hiq
      have e3 : a.eval (.tmp 67) = .agg #[.int .i64 T.k, .bool T.b, .int .i64 T.n, .string T.s, .slice A.pa T.m A.pc, .slice A.na T.q A.nc] := hk 3 (mem_of (by kernel_rfl))
      have f3 := ev e3
      have e4 : a.eval (.tmp 68) = .agg #[.int .i64 U.k, .bool U.b, .int .i64 U.n, .string U.s, .slice C.pa U.m C.pc, .slice C.na U.q C.nc] := hk 4 (mem_of (by kernel_rfl))
      have f4 := ev e4
      clear hk
      refine ⟨_, rfl, rfl, rfl, wp_enter (f := 21) (args := #[.agg #[.int .i64 T.k, .bool T.b, .int .i64 T.n, .string T.s, .slice A.pa T.m A.pc, .slice A.na T.q A.nc], .agg #[.int .i64 U.k, .bool U.b, .int .i64 U.n, .string U.s, .slice C.pa U.m C.pc, .slice C.na U.q C.nc]]) ?_ ((kcmp W hb).mono ?_)⟩
      . go_simp
      . rintro e w2 ⟨rfl, hb2⟩
        exact ⟨_, rfl, _, rfl, hb2, rfl⟩
    . clear hiq
      have e2 : a.eval (.tmp 66) = .string ka := hk 2 (mem_of (by kernel_rfl))
      have f2 := ev e2
      clear hk
      refine ⟨_, rfl, rfl, rfl, wp_value (v := .string ka) (w' := W) ?_ ⟨_, rfl, Below.refl _ _, rfl⟩⟩
      go_simp
    . clear hiq
      have e5 : a.eval (.tmp 69) = .int .i64 cc1 := hk 5 (mem_of (by kernel_rfl))
      have f5 := ev e5
      clear hk
      refine ⟨_, rfl, rfl, rfl, wp_value (v := .int .i64 cc1) (w' := W) ?_ ⟨_, rfl, Below.refl _ _, rfl⟩⟩
      go_simp
  case post =>
    intro V1 W2 hbW hV
    have v6 : V1 6 = .string ka := hV 6 (by omega)
    have v7 : V1 7 = .int .i64 cc1 := hV 7 (by omega)
    have H6 : Hid (Below w.heap.size w W2) := H5.out.1.bel.trans (hbW.mono H5.out.1.bel.size)
    have r9 := Below.row hbW H5.out.2.1
    have p0 := cell_of_row W2 _ 0 _ _ _ r9
    have p1 := cell_of_row W2 _ 1 _ _ _ r9
    clear hV hbW q7 q8 kref kcmp kkey H5 KC KK KR r9
    simp only [putAll, reduceIte, Nat.reduceLT, Nat.reduceAdd]
    rw [v6, v7]
    simp only [Act.put, List.setIfInBounds_toArray, List.set_cons_zero, List.set_cons_succ]
    change wpList _ _ _ [] _ _
    rcases x1 with _ | _ <;> rcases x2 with _ | _
    all_goals
      obtain ⟨D1, D2⟩ := HX.out
      simp only [decide_eq_true_eq, decide_eq_false_iff_not] at D1 D2
    . have HD : Hid (0 < cc1) := by show 0 < cc1; omega
      clear D1 D2 HX
      go_wp2
      all_goals
        go_ret
        have := HD.out
        refine ⟨?_, H6.out⟩
        try simp
        try omega
    . have HD : cc1 = 0 := by omega
      subst HD
      clear D1 D2 HX
      go_wp2
      go_ret
      exact ⟨rfl, H6.out⟩
    . exact absurd D2 (by omega)
    . have HD : Hid (cc1 < 0) := by show cc1 < 0; omega
      clear D1 D2 HX
      go_wp2
      all_goals
        go_ret
        have := HD.out
        refine ⟨?_, H6.out⟩
        try simp
        try omega
end Go.Proofs.YtfemippjaokcmaaGreatDoor
namespace Go.Proofs.YtfemippjaokcmaaGreatDoor
open Go.RowKit Go.Shelf
attribute [local go_sem] Oper.semAt_some fw0 fw1 fw2 eql33t
set_option maxRecDepth 100000 in
set_option maxHeartbeats 8000000 in
theorem sp_gt {w W : World} {T U : V.Tr} {A C : V.Ad} {z7 z8 : Nat} (hM : SpW w W T U A C z7 z8) (hT : SpT T U) (he : Ev w) (hg : V.Gm w) (y0 y1 y3 y4 y5 y6 y9 y10 y11 y12 y13 y14 y15 y16 y17 y18 y19 y20 y21 y22 y23 y24 y25 y26 y27 y28 y29 y30 y31 y32 y33 y34 y35 y36 y37 y38 y39 y40 y41 y42 y43 y44 y45 y46 y47 y48 y49 y50 y51 y52 y53 y54 y55 y56 y57 y58 y59 y60 y61 y62 y63 y64 y65 y66 y67 y68 y69 y70 y71 y72 y73 y74 y75 y76 y77 y78 y79 y80 y81 y82 y83 y84 y85 y86 y87 y88 y89 y90 y91 y92 y93 y94 y95 y96 y97 y98 y99 y100 y101 y102 y103 y104 y105 y106 y107 y108 y109 y110 y111 y112 y113 : Value) (cc : Code) (hcc : cutSd Tryz.f5.body = some cc) :
    Code.wp Tryz.prog cc (bodyPost Tryz.prog Tryz.f5 (fun e w' => e = .returned (.bool true) /\ Below w.heap.size w w')) ⟨List.toArray (y0 :: y1 :: .string ⟨#[62]⟩ :: y3 :: y4 :: y5 :: y6 :: .pointer (some ⟨z7, 0, none⟩) :: .pointer (some ⟨z8, 0, none⟩) :: y9 :: y10 :: y11 :: y12 :: y13 :: y14 :: y15 :: y16 :: y17 :: y18 :: y19 :: y20 :: y21 :: y22 :: y23 :: y24 :: y25 :: y26 :: y27 :: y28 :: y29 :: y30 :: y31 :: y32 :: y33 :: y34 :: y35 :: y36 :: y37 :: y38 :: y39 :: y40 :: y41 :: y42 :: y43 :: y44 :: y45 :: y46 :: y47 :: y48 :: y49 :: y50 :: y51 :: y52 :: y53 :: y54 :: y55 :: y56 :: y57 :: y58 :: y59 :: y60 :: y61 :: y62 :: y63 :: y64 :: y65 :: y66 :: y67 :: y68 :: y69 :: y70 :: y71 :: y72 :: y73 :: y74 :: y75 :: y76 :: y77 :: y78 :: y79 :: y80 :: y81 :: y82 :: y83 :: y84 :: y85 :: y86 :: y87 :: y88 :: y89 :: y90 :: y91 :: y92 :: y93 :: y94 :: y95 :: y96 :: y97 :: y98 :: y99 :: y100 :: y101 :: y102 :: y103 :: y104 :: y105 :: y106 :: y107 :: y108 :: y109 :: y110 :: y111 :: y112 :: y113 :: []), []⟩ W := by
  obtain rfl := Option.some.inj ((show cutSd Tryz.f5.body = some _ from rfl).symm.trans hcc)
  clear hcc
  have hlU := hM.lU
  have ks := span_any ⟨#[62]⟩ (k := U.k) (b := U.b) (n := U.n) (s := U.s) (pa := C.pa) (m := U.m) (pc := C.pc) (na := C.na) (q := U.q) (nc := C.nc) (w := W) (K := kyB U) (by have := ky_len hT.cU; unfold maxLen; omega) (fun W2 hb2 => V.of_ok hT.cU hT.mU (hg.later (hM.bel.trans (hb2.mono hM.bel.size)) hg.pos) ((V.Lies.later hb2 hlU).up hb2.size) (Nat.le_refl _))
  have hsp : spanF ((⟨#[62]⟩ : ByteArray).data.toList) (kyB U) = (V.nextB (kyB U), ⟨#[]⟩, true) := by
    unfold spanF
    simp
  rw [hsp] at ks
  have f1 := hT.sf.lt
  have f2 := hT.sf.nx
  have f3 := hT.sf.e1
  have f4 := hT.sf.e2
  have f5 := empty_eq f3
  have f6 := empty_eq f4
  have kcmp0 : ∀ W2, Below W.heap.size W W2 -> Calls Tryz.prog 21 #[.agg #[.int .i64 T.k, .bool T.b, .int .i64 T.n, .string T.s, .slice A.pa T.m A.pc, .slice A.na T.q A.nc], .agg #[.int .i64 U.k, .bool U.b, .int .i64 U.n, .string U.s, .slice C.pa U.m C.pc, .slice C.na U.q C.nc]] W2 fun e w' => e = .returned (.int .i64 (V.cmpT T U)) /\ Below W2.heap.size W2 w' := fun W2 hb => V.cmp_all T U W2.heap.size W2 A C ((V.Lies.later hb hM.lT).up hb.size) ((V.Lies.later hb hM.lU).up hb.size) (Nat.le_refl _)
  have kkey0 : ∀ (W2 : World) (A1 : V.Ad), V.Lies W2.heap.size W2 T A1 -> Calls Tryz.prog 18 #[.agg #[.int .i64 T.k, .bool T.b, .int .i64 T.n, .string T.s, .slice A1.pa T.m A1.pc, .slice A1.na T.q A1.nc]] W2 fun e w' => e = .returned (.string (kyB T)) /\ Below W2.heap.size W2 w' := fun W2 A1 h => V.key_ok hT.cT hT.mT h (Nat.le_refl _)
  have KR := mkHid (ref_t hT.sT hM.lT)
  obtain ⟨kb, hkb⟩ : ∃ x, kyB U = x := ⟨_, rfl⟩
  obtain ⟨nb, hnb⟩ : ∃ x, V.nextB (kyB U) = x := ⟨_, rfl⟩
  rw [hnb] at f2 f4 f6 ks
  rw [hkb] at f1 f3 f5
  obtain ⟨ka, hka⟩ : ∃ x, kyB T = x := ⟨_, rfl⟩
  rw [hka] at f1 f2 kkey0
  obtain ⟨cc1, hcc1⟩ : ∃ x, V.cmpT T U = x := ⟨_, rfl⟩
  rw [hcc1] at kcmp0 f1 f2
  obtain ⟨x1, hx1⟩ : ∃ x, decide (cc1 < 0) = x := ⟨_, rfl⟩
  obtain ⟨x2, hx2⟩ : ∃ x, decide (cc1 <= 0) = x := ⟨_, rfl⟩
  rw [hx1] at f1
  rw [hx2] at f2
  have HX := mkHid (And.intro hx1 hx2)
  have f7 : Op.bytesLess ka.toList [] = false := V.lt8_nil_r ka.toList
  have KC := mkHid kcmp0
  have KK := mkHid kkey0
  have H0 := mkHid hM
  have HE := mkHid he
  have HG := mkHid hg
  have q70 := hM.r7
  have q80 := hM.r8
  have d0 := cell_of_row W _ 0 _ _ _ q80
  have d1 := cell_of_row W _ 1 _ _ _ q80
  have d2 := cell_of_row W _ 2 _ _ _ q80
  have d3 := cell_of_row W _ 3 _ _ _ q80
  have d4 := cell_of_row W _ 4 _ _ _ q80
  have d5 := cell_of_row W _ 5 _ _ _ q80
  clear hM hT he hg hsp hkb hnb hka hcc1 hlU hx1 hx2 kcmp0 kkey0 q70 q80
  go_wp2_with fail
  refine ks.mono ?_
  rintro e w3 ⟨rfl, hb3⟩
  obtain ⟨w4, hw4⟩ : ∃ u, w3.alloc (.cells #[.string nb, .string ⟨#[]⟩] 33) = u := ⟨_, rfl⟩
  obtain ⟨r4, hb4⟩ := alloc1 hw4
  have HW4 := mkHid hw4
  have hb04 : Below W.heap.size W w4 := hb3.trans (hb4.mono hb3.size)
  have H4 : Hid (SpW w w4 T U A C z7 z8 /\ w4.heap[w3.heap.size]? = some (.cells #[.string nb, .string ⟨#[]⟩] 33 (0, 0)) /\ Below W.heap.size W w4) := ⟨H0.out.later hb04, r4, hb04⟩
  have ka1 := awake_any w4 (HE.out.later H4.out.1.bel) (HG.out.later H4.out.1.bel HG.out.pos)
  clear ks hb3 hw4 hb4 hb04 r4 d0 d1 d2 d3 d4 d5 H0
  go_wp2_with (first | rw [HW4.out] | fail)
  obtain ⟨z9, hz9⟩ : ∃ z, w3.heap.size = z := ⟨_, rfl⟩
  rw [hz9] at H4 ⊢
  clear hz9 HW4
  refine ka1.mono ?_
  rintro e w5 ⟨rfl, hb5⟩
  have H5 : Hid (SpW w w5 T U A C z7 z8 /\ w5.heap[z9]? = some (.cells #[.string nb, .string ⟨#[]⟩] 33 (0, 0)) /\ Below W.heap.size W w5) := ⟨H4.out.1.later hb5, Below.row hb5 H4.out.2.1, H4.out.2.2.trans (hb5.mono H4.out.2.2.size)⟩
  clear ka1 hb5 H4
  go_wp2_with fail
  have q7 := H5.out.1.r7
  have q8 := H5.out.1.r8
  have kref : ∀ W2, Below w5.heap.size w5 W2 -> _ := fun W2 hb => KR.out W2 (H5.out.2.2.trans (hb.mono H5.out.2.2.size))
  have kcmp : ∀ W2, Below w5.heap.size w5 W2 -> _ := fun W2 hb => KC.out W2 (H5.out.2.2.trans (hb.mono H5.out.2.2.size))
  have kkey := KK.out
  refine any_tail (by kernel_rfl) 8 (by exact Nat.le_of_ble_eq_true rfl) (fun i => if i < 6 then i + 64 else i + 6) (mixR [(1, (RfT T))] [.agg #[.int .i64 T.k, .bool T.b, .int .i64 T.n, .string T.s, .slice A.pa T.m A.pc, .slice A.na T.q A.nc], undef, .string ka, .agg #[.int .i64 T.k, .bool T.b, .int .i64 T.n, .string T.s, .slice A.pa T.m A.pc, .slice A.na T.q A.nc], .agg #[.int .i64 U.k, .bool U.b, .int .i64 U.n, .string U.s, .slice C.pa U.m C.pc, .slice C.na U.q C.nc], .int .i64 cc1, .string ka, .int .i64 cc1]) (by kernel_rfl) (by kernel_rfl) (by kernel_rfl) (by kernel_rfl) (mixR_later _ _ (stab_cons (RfT.later) (stab_nil))) ?step ?post
  case step =>
    intro iq hiq a W hrest hb hk
    have hp7 : a.eval (.tmp 7) = .pointer (some ⟨z7, 0, none⟩) := (hrest 7 (by intro iq2 hiq2; (repeat' split) <;> omega)).trans rfl
    have fp7 := ev hp7
    have hx7 : W.heap[z7]? = some (.cells #[.int .i64 T.k, .bool T.b, .int .i64 T.n, .string T.s, .slice A.pa T.m A.pc, .slice A.na T.q A.nc] 25 (0, 0)) := (hb.block _ (lt_of_row q7)).trans q7
    have hp8 : a.eval (.tmp 8) = .pointer (some ⟨z8, 0, none⟩) := (hrest 8 (by intro iq2 hiq2; (repeat' split) <;> omega)).trans rfl
    have fp8 := ev hp8
    have hx8 : W.heap[z8]? = some (.cells #[.int .i64 U.k, .bool U.b, .int .i64 U.n, .string U.s, .slice C.pa U.m C.pc, .slice C.na U.q C.nc] 25 (0, 0)) := (hb.block _ (lt_of_row q8)).trans q8
    clear hrest
    obtain rfl | rfl | rfl | rfl | rfl | rfl | rfl | rfl : iq = 0 ∨ iq = 1 ∨ iq = 2 ∨ iq = 3 ∨ iq = 4 ∨ iq = 5 ∨ iq = 6 ∨ iq = 7 := by omega
    . clear hiq
      have hc0 := cell_of_row W z7 0 _ _ _ hx7
      have hc1 := cell_of_row W z7 1 _ _ _ hx7
      have hc2 := cell_of_row W z7 2 _ _ _ hx7
      have hc3 := cell_of_row W z7 3 _ _ _ hx7
      have hc4 := cell_of_row W z7 4 _ _ _ hx7
      have hc5 := cell_of_row W z7 5 _ _ _ hx7
      clear hk
      refine ⟨_, rfl, rfl, rfl, wp_value (v := .agg #[.int .i64 T.k, .bool T.b, .int .i64 T.n, .string T.s, .slice A.pa T.m A.pc, .slice A.na T.q A.nc]) (w' := W) ?_ ⟨_, rfl, Below.refl _ _, rfl⟩⟩
      go_simp
    . clear hiq
      have e0 : a.eval (.tmp 64) = .agg #[.int .i64 T.k, .bool T.b, .int .i64 T.n, .string T.s, .slice A.pa T.m A.pc, .slice A.na T.q A.nc] := hk 0 (mem_of (by kernel_rfl))
      have f0 := ev e0
      clear hk
      refine ⟨_, rfl, rfl, rfl, wp_enter (f := 17) (args := #[.agg #[.int .i64 T.k, .bool T.b, .int .i64 T.n, .string T.s, .slice A.pa T.m A.pc, .slice A.na T.q A.nc]]) ?_ ((kref W hb).mono ?_)⟩
      . go_simp
      . rintro e w2 ⟨⟨v, rfl, hv⟩, hb2⟩
        exact ⟨_, rfl, _, rfl, hb2, hv⟩
    . clear hiq
      obtain ⟨A1, e1, h1⟩ := show (RfT T) (a.eval (.tmp 65)) W from hk 1 (mem_of (by kernel_rfl))
      replace e1 : a.eval (.tmp 65) = .agg #[.int .i64 T.k, .bool T.b, .int .i64 T.n, .string T.s, .slice A1.pa T.m A1.pc, .slice A1.na T.q A1.nc] := e1
      have f1 := ev e1
      clear hk
      refine ⟨_, rfl, rfl, rfl, wp_enter (f := 18) (args := #[.agg #[.int .i64 T.k, .bool T.b, .int .i64 T.n, .string T.s, .slice A1.pa T.m A1.pc, .slice A1.na T.q A1.nc]]) ?_ ((kkey W A1 h1).mono ?_)⟩
      . go_simp
      . rintro e w2 ⟨rfl, hb2⟩
        exact ⟨_, rfl, _, rfl, hb2, rfl⟩
    . clear hiq
      have hc0 := cell_of_row W z7 0 _ _ _ hx7
      have hc1 := cell_of_row W z7 1 _ _ _ hx7
      have hc2 := cell_of_row W z7 2 _ _ _ hx7
      have hc3 := cell_of_row W z7 3 _ _ _ hx7
      have hc4 := cell_of_row W z7 4 _ _ _ hx7
      have hc5 := cell_of_row W z7 5 _ _ _ hx7
      clear hk
      refine ⟨_, rfl, rfl, rfl, wp_value (v := .agg #[.int .i64 T.k, .bool T.b, .int .i64 T.n, .string T.s, .slice A.pa T.m A.pc, .slice A.na T.q A.nc]) (w' := W) ?_ ⟨_, rfl, Below.refl _ _, rfl⟩⟩
      go_simp
    . clear hiq
      have hc0 := cell_of_row W z8 0 _ _ _ hx8
      have hc1 := cell_of_row W z8 1 _ _ _ hx8
      have hc2 := cell_of_row W z8 2 _ _ _ hx8
      have hc3 := cell_of_row W z8 3 _ _ _ hx8
      have hc4 := cell_of_row W z8 4 _ _ _ hx8
      have hc5 := cell_of_row W z8 5 _ _ _ hx8
      clear hk
      refine ⟨_, rfl, rfl, rfl, wp_value (v := .agg #[.int .i64 U.k, .bool U.b, .int .i64 U.n, .string U.s, .slice C.pa U.m C.pc, .slice C.na U.q C.nc]) (w' := W) ?_ ⟨_, rfl, Below.refl _ _, rfl⟩⟩
      go_simp
    . clear hiq
      have e3 : a.eval (.tmp 67) = .agg #[.int .i64 T.k, .bool T.b, .int .i64 T.n, .string T.s, .slice A.pa T.m A.pc, .slice A.na T.q A.nc] := hk 3 (mem_of (by kernel_rfl))
      have f3 := ev e3
      have e4 : a.eval (.tmp 68) = .agg #[.int .i64 U.k, .bool U.b, .int .i64 U.n, .string U.s, .slice C.pa U.m C.pc, .slice C.na U.q C.nc] := hk 4 (mem_of (by kernel_rfl))
      have f4 := ev e4
      clear hk
      refine ⟨_, rfl, rfl, rfl, wp_enter (f := 21) (args := #[.agg #[.int .i64 T.k, .bool T.b, .int .i64 T.n, .string T.s, .slice A.pa T.m A.pc, .slice A.na T.q A.nc], .agg #[.int .i64 U.k, .bool U.b, .int .i64 U.n, .string U.s, .slice C.pa U.m C.pc, .slice C.na U.q C.nc]]) ?_ ((kcmp W hb).mono ?_)⟩
      . go_simp
      . rintro e w2 ⟨rfl, hb2⟩
        exact ⟨_, rfl, _, rfl, hb2, rfl⟩
    . clear hiq
      have e2 : a.eval (.tmp 66) = .string ka := hk 2 (mem_of (by kernel_rfl))
      have f2 := ev e2
      clear hk
      refine ⟨_, rfl, rfl, rfl, wp_value (v := .string ka) (w' := W) ?_ ⟨_, rfl, Below.refl _ _, rfl⟩⟩
      go_simp
    . clear hiq
      have e5 : a.eval (.tmp 69) = .int .i64 cc1 := hk 5 (mem_of (by kernel_rfl))
      have f5 := ev e5
      clear hk
      refine ⟨_, rfl, rfl, rfl, wp_value (v := .int .i64 cc1) (w' := W) ?_ ⟨_, rfl, Below.refl _ _, rfl⟩⟩
      go_simp
  case post =>
    intro V1 W2 hbW hV
    have v6 : V1 6 = .string ka := hV 6 (by omega)
    have v7 : V1 7 = .int .i64 cc1 := hV 7 (by omega)
    have H6 : Hid (Below w.heap.size w W2) := H5.out.1.bel.trans (hbW.mono H5.out.1.bel.size)
    have r9 := Below.row hbW H5.out.2.1
    have p0 := cell_of_row W2 _ 0 _ _ _ r9
    have p1 := cell_of_row W2 _ 1 _ _ _ r9
    clear hV hbW q7 q8 kref kcmp kkey H5 KC KK KR r9
    simp only [putAll, reduceIte, Nat.reduceLT, Nat.reduceAdd]
    rw [v6, v7]
    simp only [Act.put, List.setIfInBounds_toArray, List.set_cons_zero, List.set_cons_succ]
    change wpList _ _ _ [] _ _
    rcases x1 with _ | _ <;> rcases x2 with _ | _
    all_goals
      obtain ⟨D1, D2⟩ := HX.out
      simp only [decide_eq_true_eq, decide_eq_false_iff_not] at D1 D2
    . have HD : Hid (0 < cc1) := by show 0 < cc1; omega
      clear D1 D2 HX
      go_wp2
      all_goals
        go_ret
        have := HD.out
        refine ⟨?_, H6.out⟩
        try simp
        try omega
    . have HD : cc1 = 0 := by omega
      subst HD
      clear D1 D2 HX
      go_wp2
      go_ret
      exact ⟨rfl, H6.out⟩
    . exact absurd D2 (by omega)
    . have HD : Hid (cc1 < 0) := by show cc1 < 0; omega
      clear D1 D2 HX
      go_wp2
      all_goals
        go_ret
        have := HD.out
        refine ⟨?_, H6.out⟩
        try simp
        try omega
end Go.Proofs.YtfemippjaokcmaaGreatDoor
