/- PlanSpans called. -/
import Derived.Test.YtfemippjaokcmaaGreatDoorYac
import Derived.Test.YtfemippjaokcmaaGreatDoorYad
namespace Go.Proofs.YtfemippjaokcmaaGreatDoor
open Go.RowKit Go.Shelf
attribute [local go_sem] Oper.semAt_some fw0 fw1 fw2 eql33t
open V.K in
set_option maxRecDepth 100000 in
set_option maxHeartbeats 8000000 in
theorem spans_walk {t u : V.Tr} {x y : V.Ad} (sg : ByteArray) (w : World) (he : Ev w) (hg : V.Gm w) (hL : V.Lies w.heap.size w t x) (hM : V.Lies w.heap.size w u y) :
    Calls Tryz.prog 5 #[t.val x, u.val y, .string sg] w fun e w' => e = .returned (.bool true) /\ Below w.heap.size w w' := by
  have hV : t.val x = .agg (t.cs x).toArray := rfl
  have hV' : u.val y = .agg (u.cs y).toArray := rfl
  have hcut := fun (W : World) (hb : Below w.heap.size w W) => V.cut_all t w.heap.size W x 3 4 (V.Lies.later hb hL) hb.size (by decide) (by decide)
  have hcut' := fun (W : World) (hb : Below w.heap.size w W) => V.cut_all u w.heap.size W y 3 4 (V.Lies.later hb hM) hb.size (by decide) (by decide)
  have hsm := V.small_cutK t 3 4
  have hsl := V.slim_cut t 3 4 (by decide)
  have hsm' := V.small_cutK u 3 4
  obtain ⟨T, hT⟩ : ∃ T, V.cutT t 3 4 = T := ⟨_, rfl⟩
  obtain ⟨U, hU⟩ : ∃ U, V.cutT u 3 4 = U := ⟨_, rfl⟩
  rw [hT] at hcut hsm hsl
  rw [hU] at hcut' hsm'
  rw [hV] at hcut ⊢
  rw [hV'] at hcut' ⊢
  have hra := V.K.cells_size t x
  have hrb := V.K.cells_size u y
  obtain ⟨ra, hra'⟩ : ∃ ra : Array Value, (t.cs x).toArray = ra := ⟨_, rfl⟩
  obtain ⟨rb, hrb'⟩ : ∃ rb : Array Value, (u.cs y).toArray = rb := ⟨_, rfl⟩
  rw [hra'] at hcut hra ⊢
  rw [hrb'] at hcut' hrb ⊢
  clear hV hV' hT hU hra' hrb'
  obtain ⟨w2, hw2⟩ : ∃ q, (w.alloc (.cells ra 25)).alloc (.cells rb 25) = q := ⟨_, rfl⟩
  obtain ⟨hrow, hrow', hbW⟩ := alloc2 hw2
  have HW2 := mkHid hw2
  have HSM := mkHid hsm
  have HSL := mkHid hsl
  have HSM' := mkHid hsm'
  have HE := mkHid he
  have HG := mkHid hg
  have hs2 := hbW.size
  obtain ⟨cT, hcT⟩ : ∃ c, cutSd Tryz.f5.body = some c := ⟨_, rfl⟩
  have HCT := mkHid hcT
  clear hsm hsl hsm' hg he hL hM hw2 hcT
  go_enter Tryz.func5, Tryz.ntmps5
  have hEq := seq3_of (b := Tryz.f5.body) rfl rfl rfl rfl HCT.out
  refine (congrArg (fun c => Code.wp Tryz.prog c _ _ _) hEq).mpr ?_
  clear hEq
  go_wp2_with (first | rw [HW2.out] | fail)
  refine V.K.pair_region (ty := 25) (tl := 25) (sx := 3) (sy := 4) (d0 := 15) (d1 := 16) (d2 := 17) (d3 := 18) (s5 := 7) (s6 := 8) (ra := ra) (rb := rb) (zr := #[.int .i64 0, .bool false, .int .i64 0, .string ⟨#[]⟩, .slice none 0 0, .slice none 0 0]) (T := T) (U := U) (B := w.heap.size)
    (f := 13) (f' := 13) (xs := #[.agg ra, .int .i64 3, .int .i64 4]) (xs' := #[.agg rb, .int .i64 3, .int .i64 4]) (bx := w.heap.size) (bx' := w.heap.size + 1)
    (by kernel_rfl) rfl (by kernel_rfl) (by kernel_rfl) ⟨rfl, rfl, rfl, rfl, rfl, rfl, rfl, rfl⟩ ⟨rfl, rfl, rfl, rfl, rfl, rfl, rfl, rfl⟩ rfl rfl rfl rfl
    ?en1 ?en3 ?al4 ?al5 rfl (by decide) ⟨(by decide : (15 : Nat) < 114), (by decide : (16 : Nat) < 114), (by decide : (17 : Nat) < 114), (by decide : (18 : Nat) < 114), (by decide : (7 : Nat) < 114), (by decide : (8 : Nat) < 114)⟩ rfl rfl hrow hrow' Tryz.underlying25 rfl (by rw [hra]; kernel_rfl) (hra.trans hrb.symm) (by kernel_rfl) (by omega) (fun V hv => hcut V (hbW.trans (hv.mono (by omega)))) (fun V hv => hcut' V (hbW.trans (hv.mono (by omega)))) ?post
  case en1 =>
    intro a W h
    have h' : a.eval (.tmp 15) = .agg ra := h
    go_simp
  case en3 =>
    intro a W h
    have h' : a.eval (.tmp 17) = .agg rb := h
    go_simp
  case al4 =>
    intro a W
    go_simp
  case al5 =>
    intro a W
    go_simp
  case post =>
    intro W z7 z8 A C hb r7 r8 hz7 hz8 hLT hLU
    simp only [Act.put, List.setIfInBounds_toArray, List.set_cons_zero, List.set_cons_succ]
    have hb0 : Below w.heap.size w W := hbW.trans (hb.mono (by omega))
    have hM : SpW w W T U A C z7 z8 := ⟨hb0, r7, r8, hLT, hLU⟩
    have hckT := fun (V2 : World) (hv : Below W.heap.size W V2) => V.check_any (V.Lies.later hv hLT) hv.size HSM.out
    have hckU := fun (V2 : World) (hv : Below W.heap.size W V2) => V.check_any (V.Lies.later hv hLU) hv.size HSM'.out
    have hVT : T.val A = .agg #[.int .i64 T.k, .bool T.b, .int .i64 T.n, .string T.s, .slice A.pa T.m A.pc, .slice A.na T.q A.nc] := rfl
    have hVU : U.val C = .agg #[.int .i64 U.k, .bool U.b, .int .i64 U.n, .string U.s, .slice C.pa U.m C.pc, .slice C.na U.q C.nc] := rfl
    rw [hVT] at hckT ⊢
    rw [hVU] at hckU ⊢
    obtain ⟨X, hX⟩ : ∃ X, V.checkT T = X := ⟨_, rfl⟩
    obtain ⟨X', hX'⟩ : ∃ X, V.checkT U = X := ⟨_, rfl⟩
    rw [hX] at hckT
    rw [hX'] at hckU
    have HX := mkHid hX
    have HX' := mkHid hX'
    have H0 := mkHid hM
    have q7 := hM.r7
    have c0 := cell_of_row W _ 0 _ _ _ q7
    have c1 := cell_of_row W _ 1 _ _ _ q7
    have c2 := cell_of_row W _ 2 _ _ _ q7
    have c3 := cell_of_row W _ 3 _ _ _ q7
    have c4 := cell_of_row W _ 4 _ _ _ q7
    have c5 := cell_of_row W _ 5 _ _ _ q7
    clear hX hX' hrow hrow' hs2 hbW hcut hcut' hra hrb hb r7 r8 hz7 hz8 hLT hLU hb0 hM hVT hVU q7
    go_wp2_with fail
    refine (hckT _ (Below.refl _ W)).mono ?_
    rintro e w1 ⟨rfl, hb1⟩
    have H1 : Hid (SpW w w1 T U A C z7 z8 /\ Below W.heap.size W w1) := ⟨H0.out.later hb1, hb1⟩
    clear c0 c1 c2 c3 c4 c5 hckT hb1 H0
    by_cases h0 : X = 0
    case neg =>
      have h0' : (X != 0) = true := by simpa using h0
      have ka := awake_any w1 (HE.out.later H1.out.1.bel) (HG.out.later H1.out.1.bel HG.out.pos)
      clear hckU
      go_wp2_with fail
      refine ka.mono ?_
      rintro e w2 ⟨rfl, hb2⟩
      have H2 : Hid (Below w.heap.size w w2) := H1.out.1.bel.trans (hb2.mono H1.out.1.bel.size)
      clear ka hb2
      go_wp2
      go_ret
      exact ⟨rfl, H2.out⟩
    subst h0
    have q8 := H1.out.1.r8
    have c0 := cell_of_row w1 _ 0 _ _ _ q8
    have c1 := cell_of_row w1 _ 1 _ _ _ q8
    have c2 := cell_of_row w1 _ 2 _ _ _ q8
    have c3 := cell_of_row w1 _ 3 _ _ _ q8
    have c4 := cell_of_row w1 _ 4 _ _ _ q8
    have c5 := cell_of_row w1 _ 5 _ _ _ q8
    have hck2 := hckU w1 H1.out.2
    clear q8 hckU
    go_wp2_with fail
    refine hck2.mono ?_
    rintro e w2 ⟨rfl, hb2⟩
    have H2 : Hid (SpW w w2 T U A C z7 z8) := H1.out.1.later hb2
    clear c0 c1 c2 c3 c4 c5 hck2 hb2 H1
    by_cases h1 : X' = 0
    case neg =>
      have h1' : (X' != 0) = true := by simpa using h1
      have ka := awake_any w2 (HE.out.later H2.out.bel) (HG.out.later H2.out.bel HG.out.pos)
      go_wp2_with fail
      refine ka.mono ?_
      rintro e w3 ⟨rfl, hb3⟩
      have H3 : Hid (Below w.heap.size w w3) := H2.out.bel.trans (hb3.mono H2.out.bel.size)
      clear ka hb3
      go_wp2
      go_ret
      exact ⟨rfl, H3.out⟩
    subst h1
    have HM := H2
    have HT : Hid (SpT T U) := ⟨HX.out, HX'.out, HSM.out, HSM'.out, HSL.out, sp_facts (V.Lies.realT T H2.out.lT) (V.Lies.realT U H2.out.lU) (V.check_zero HX.out).1 (V.check_zero HX'.out).1⟩
    clear H2
    go_wp2_with fail
    by_cases s0 : sg.data.toList = [61]
    . obtain rfl := V.of_list s0
      exact sp_eq HM.out HT.out HE.out HG.out _ _ _ _ _ _ _ _ _ _ _ _ _ _ _ _ _ _ _ _ _ _ _ _ _ _ _ _ _ _ _ _ _ _ _ _ _ _ _ _ _ _ _ _ _ _ _ _ _ _ _ _ _ _ _ _ _ _ _ _ _ _ _ _ _ _ _ _ _ _ _ _ _ _ _ _ _ _ _ _ _ _ _ _ _ _ _ _ _ _ _ _ _ _ _ _ _ _ _ _ _ _ _ _ _ _ _ _ _ _ _ cT HCT.out
    by_cases s1 : sg.data.toList = [60]
    . obtain rfl := V.of_list s1
      exact sp_lt HM.out HT.out HE.out HG.out _ _ _ _ _ _ _ _ _ _ _ _ _ _ _ _ _ _ _ _ _ _ _ _ _ _ _ _ _ _ _ _ _ _ _ _ _ _ _ _ _ _ _ _ _ _ _ _ _ _ _ _ _ _ _ _ _ _ _ _ _ _ _ _ _ _ _ _ _ _ _ _ _ _ _ _ _ _ _ _ _ _ _ _ _ _ _ _ _ _ _ _ _ _ _ _ _ _ _ _ _ _ _ _ _ _ _ _ _ _ _ cT HCT.out
    by_cases s2 : sg.data.toList = [60, 61]
    . obtain rfl := V.of_list s2
      exact sp_le HM.out HT.out HE.out HG.out _ _ _ _ _ _ _ _ _ _ _ _ _ _ _ _ _ _ _ _ _ _ _ _ _ _ _ _ _ _ _ _ _ _ _ _ _ _ _ _ _ _ _ _ _ _ _ _ _ _ _ _ _ _ _ _ _ _ _ _ _ _ _ _ _ _ _ _ _ _ _ _ _ _ _ _ _ _ _ _ _ _ _ _ _ _ _ _ _ _ _ _ _ _ _ _ _ _ _ _ _ _ _ _ _ _ _ _ _ _ _ cT HCT.out
    by_cases s3 : sg.data.toList = [62]
    . obtain rfl := V.of_list s3
      exact sp_gt HM.out HT.out HE.out HG.out _ _ _ _ _ _ _ _ _ _ _ _ _ _ _ _ _ _ _ _ _ _ _ _ _ _ _ _ _ _ _ _ _ _ _ _ _ _ _ _ _ _ _ _ _ _ _ _ _ _ _ _ _ _ _ _ _ _ _ _ _ _ _ _ _ _ _ _ _ _ _ _ _ _ _ _ _ _ _ _ _ _ _ _ _ _ _ _ _ _ _ _ _ _ _ _ _ _ _ _ _ _ _ _ _ _ _ _ _ _ _ cT HCT.out
    by_cases s4 : sg.data.toList = [62, 61]
    . obtain rfl := V.of_list s4
      exact sp_ge HM.out HT.out HE.out HG.out _ _ _ _ _ _ _ _ _ _ _ _ _ _ _ _ _ _ _ _ _ _ _ _ _ _ _ _ _ _ _ _ _ _ _ _ _ _ _ _ _ _ _ _ _ _ _ _ _ _ _ _ _ _ _ _ _ _ _ _ _ _ _ _ _ _ _ _ _ _ _ _ _ _ _ _ _ _ _ _ _ _ _ _ _ _ _ _ _ _ _ _ _ _ _ _ _ _ _ _ _ _ _ _ _ _ _ _ _ _ _ cT HCT.out
    exact sp_no sg (ne_sign s0) (ne_sign s1) (ne_sign s2) (ne_sign s3) (ne_sign s4) HM.out HE.out HG.out _ _ _ _ _ _ _ _ _ _ _ _ _ _ _ _ _ _ _ _ _ _ _ _ _ _ _ _ _ _ _ _ _ _ _ _ _ _ _ _ _ _ _ _ _ _ _ _ _ _ _ _ _ _ _ _ _ _ _ _ _ _ _ _ _ _ _ _ _ _ _ _ _ _ _ _ _ _ _ _ _ _ _ _ _ _ _ _ _ _ _ _ _ _ _ _ _ _ _ _ _ _ _ _ _ _ _ _ _ _ _ cT HCT.out
end Go.Proofs.YtfemippjaokcmaaGreatDoor
