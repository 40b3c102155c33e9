/- EvalTruths called, where its first argument's two lowest bits are 0. -/
import Derived.Test.YtnnclhmhbmbkfaaGreatDoorXau
namespace Go.Proofs.YtnnclhmhbmbkfaaGreatDoor
open Go.RowKit Go.Shelf
attribute [local go_sem] Oper.semAt_some
set_option maxRecDepth 100000 in
set_option maxHeartbeats 8000000 in
theorem truths_00 (a b : Int) (ha : bits .and .i64 a 3 = 0) (hb : bits .and .i64 b 3 = 0) (w : World) (he : Ev w) (hg : Gm w) : Calls Tryz.prog 5 #[.int .i64 a, .int .i64 b] w fun e w' => e = .returned (.bool true) ∧ Below w.heap.size w w' := by
  have HEG : Hid (Ev w ∧ Gm w) := ⟨he, hg⟩
  have Hw : Hid (Below w.heap.size w w) := Below.refl _ _
  clear he hg
  go_enter Tryz.func5, Tryz.ntmps5
  go_wp2_with fail
  refine (lit_0 _).mono ?_
  rintro r wa1 ⟨rfl, hb1⟩
  have Hwa1 := mkHid (Hw.out.trans (hb1.mono Hw.out.size))
  clear hb1
  go_wp2_with fail
  refine (lit_0 _).mono ?_
  rintro r wa2 ⟨rfl, hb2⟩
  have Hwa2 := mkHid (Hwa1.out.trans (hb2.mono Hwa1.out.size))
  clear hb2
  obtain ⟨wa3, hw3⟩ : ∃ u, wa2.alloc (.cells #[.int .i64 1, .string ⟨#[]⟩, .int .i64 1, .bool false, .int .i64 0, .string ⟨#[]⟩, .slice none 0 0, .slice none 0 0, .slice none 0 0, .slice none 0 0, .int .i64 1, .string ⟨#[]⟩, .int .i64 1, .bool false, .int .i64 0, .string ⟨#[]⟩, .slice none 0 0, .slice none 0 0, .slice none 0 0, .slice none 0 0] 28) = u := ⟨_, rfl⟩
  have Gwa3 := mkHid hw3
  obtain ⟨r3, hb3⟩ := alloc1 hw3
  have Hwa3 := mkHid (Hwa2.out.trans (hb3.mono Hwa2.out.size))
  have Rwa3 := mkHid r3
  clear hw3 hb3 r3
  go_wp2_with (first | rw [Gwa3.out] | fail)
  refine (V.vnone _).mono ?_
  rintro r wa4 ⟨rfl, hb4⟩
  have Hwa4 := mkHid (Hwa3.out.trans (hb4.mono Hwa3.out.size))
  have r4 := Below.row hb4 Rwa3.out
  obtain ⟨gg, hgg⟩ : ∃ g, wa2.heap.size = g := ⟨_, rfl⟩
  rw [hgg] at r4 ⊢
  have ke : Calls Tryz.prog 9 #[.agg #[.int .i64 6, .string ⟨#[65, 78, 68]⟩, .int .i64 0, .bool false, .int .i64 0, .string ⟨#[]⟩, .slice none 0 0, .slice none 0 0, .slice (some ⟨gg, 0, none⟩) 2 2, .slice none 0 0], .agg #[.int .i64 0, .bool false, .int .i64 0, .string ⟨#[]⟩, .slice none 0 0, .slice none 0 0]] wa4 fun r w' => r = .returned (.tuple #[.agg #[.int .i64 1, .bool false, .int .i64 0, .string ⟨#[]⟩, .slice none 0 0, .slice none 0 0], .int .i64 0]) ∧ Below wa4.heap.size wa4 w' := eval_and (okL false) (okL false) gg wa4 (lt_of_row r4) (at10_row r4 (cs_0 _)) (at10_row r4 cs_00)
  clear r4 hgg hb4 Rwa3 Gwa3
  go_wp2_with fail
  refine ke.mono ?_
  rintro r wa5 ⟨rfl, hb5⟩
  have Hwa5 := mkHid (Hwa4.out.trans (hb5.mono Hwa4.out.size))
  obtain ⟨wa6, hw6⟩ : ∃ u, wa5.alloc (.cells #[.int .i64 1, .bool false, .int .i64 0, .string ⟨#[]⟩, .slice none 0 0, .slice none 0 0] 25) = u := ⟨_, rfl⟩
  have Gwa6 := mkHid hw6
  obtain ⟨r6, hb6⟩ := alloc1 hw6
  have Hwa6 := mkHid (Hwa5.out.trans (hb6.mono Hwa5.out.size))
  obtain ⟨za, hza⟩ : ∃ z, wa5.heap.size = z := ⟨_, rfl⟩
  have Eza := mkHid hza
  rw [hza] at r6
  clear ke hb5 hw6 hza
  have Jwa6 := mkHid (And.intro (Hwa6.out) (r6))
  clear r6 hb6 Hwa1 Hwa2 Hwa3 Hwa4 Hwa5 Hwa6
  have Hwa6 := Jwa6
  clear Jwa6
  go_wp2_with (first | (rw [Gwa6.out]) | fail)
  rw [Eza.out]
  refine (lit_0 _).mono ?_
  rintro r wo1 ⟨rfl, hb1⟩
  have Hwo1 := mkHid (And.intro (Hwa6.out.1.trans (hb1.mono Hwa6.out.1.size)) (Below.row hb1 Hwa6.out.2))
  clear hb1
  go_wp2_with fail
  refine (lit_0 _).mono ?_
  rintro r wo2 ⟨rfl, hb2⟩
  have Hwo2 := mkHid (And.intro (Hwo1.out.1.trans (hb2.mono Hwo1.out.1.size)) (Below.row hb2 Hwo1.out.2))
  clear hb2
  obtain ⟨wo3, hw3⟩ : ∃ u, wo2.alloc (.cells #[.int .i64 1, .string ⟨#[]⟩, .int .i64 1, .bool false, .int .i64 0, .string ⟨#[]⟩, .slice none 0 0, .slice none 0 0, .slice none 0 0, .slice none 0 0, .int .i64 1, .string ⟨#[]⟩, .int .i64 1, .bool false, .int .i64 0, .string ⟨#[]⟩, .slice none 0 0, .slice none 0 0, .slice none 0 0, .slice none 0 0] 28) = u := ⟨_, rfl⟩
  have Gwo3 := mkHid hw3
  obtain ⟨r3, hb3⟩ := alloc1 hw3
  have Hwo3 := mkHid (And.intro (Hwo2.out.1.trans (hb3.mono Hwo2.out.1.size)) (Below.row hb3 Hwo2.out.2))
  have Rwo3 := mkHid r3
  clear hw3 hb3 r3
  go_wp2_with (first | rw [Gwo3.out] | fail)
  refine (V.vnone _).mono ?_
  rintro r wo4 ⟨rfl, hb4⟩
  have Hwo4 := mkHid (And.intro (Hwo3.out.1.trans (hb4.mono Hwo3.out.1.size)) (Below.row hb4 Hwo3.out.2))
  have r4 := Below.row hb4 Rwo3.out
  obtain ⟨gg, hgg⟩ : ∃ g, wo2.heap.size = g := ⟨_, rfl⟩
  rw [hgg] at r4 ⊢
  have ke : Calls Tryz.prog 9 #[.agg #[.int .i64 6, .string ⟨#[79, 82]⟩, .int .i64 0, .bool false, .int .i64 0, .string ⟨#[]⟩, .slice none 0 0, .slice none 0 0, .slice (some ⟨gg, 0, none⟩) 2 2, .slice none 0 0], .agg #[.int .i64 0, .bool false, .int .i64 0, .string ⟨#[]⟩, .slice none 0 0, .slice none 0 0]] wo4 fun r w' => r = .returned (.tuple #[.agg #[.int .i64 1, .bool false, .int .i64 0, .string ⟨#[]⟩, .slice none 0 0, .slice none 0 0], .int .i64 0]) ∧ Below wo4.heap.size wo4 w' := eval_or (okL false) (okL false) gg wo4 (lt_of_row r4) (at10_row r4 (cs_0 _)) (at10_row r4 cs_00)
  clear r4 hgg hb4 Rwo3 Gwo3
  go_wp2_with fail
  refine ke.mono ?_
  rintro r wo5 ⟨rfl, hb5⟩
  have Hwo5 := mkHid (And.intro (Hwo4.out.1.trans (hb5.mono Hwo4.out.1.size)) (Below.row hb5 Hwo4.out.2))
  obtain ⟨wo6, hw6⟩ : ∃ u, wo5.alloc (.cells #[.int .i64 1, .bool false, .int .i64 0, .string ⟨#[]⟩, .slice none 0 0, .slice none 0 0] 25) = u := ⟨_, rfl⟩
  have Gwo6 := mkHid hw6
  obtain ⟨r6, hb6⟩ := alloc1 hw6
  have Hwo6 := mkHid (And.intro (Hwo5.out.1.trans (hb6.mono Hwo5.out.1.size)) (Below.row hb6 Hwo5.out.2))
  obtain ⟨zo, hzo⟩ : ∃ z, wo5.heap.size = z := ⟨_, rfl⟩
  have Ezo := mkHid hzo
  rw [hzo] at r6
  clear ke hb5 hw6 hzo
  have Jwo6 := mkHid (And.intro (Hwo6.out.1) (And.intro (Hwo6.out.2) (r6)))
  clear r6 hb6 Hwo1 Hwo2 Hwo3 Hwo4 Hwo5 Hwo6
  have Hwo6 := Jwo6
  clear Jwo6
  go_wp2_with (first | (rw [Gwo6.out]) | fail)
  rw [Ezo.out]
  refine (lit_0 _).mono ?_
  rintro r wn1 ⟨rfl, hb1⟩
  have Hwn1 := mkHid (And.intro (Hwo6.out.1.trans (hb1.mono Hwo6.out.1.size)) (And.intro (Below.row hb1 Hwo6.out.2.1) (Below.row hb1 Hwo6.out.2.2)))
  clear hb1
  obtain ⟨wn3, hw3⟩ : ∃ u, wn1.alloc (.cells #[.int .i64 1, .string ⟨#[]⟩, .int .i64 1, .bool false, .int .i64 0, .string ⟨#[]⟩, .slice none 0 0, .slice none 0 0, .slice none 0 0, .slice none 0 0] 28) = u := ⟨_, rfl⟩
  have Gwn3 := mkHid hw3
  obtain ⟨r3, hb3⟩ := alloc1 hw3
  have Hwn3 := mkHid (And.intro (Hwn1.out.1.trans (hb3.mono Hwn1.out.1.size)) (And.intro (Below.row hb3 Hwn1.out.2.1) (Below.row hb3 Hwn1.out.2.2)))
  have Rwn3 := mkHid r3
  clear hw3 hb3 r3
  go_wp2_with (first | rw [Gwn3.out] | fail)
  refine (V.vnone _).mono ?_
  rintro r wn4 ⟨rfl, hb4⟩
  have Hwn4 := mkHid (And.intro (Hwn3.out.1.trans (hb4.mono Hwn3.out.1.size)) (And.intro (Below.row hb4 Hwn3.out.2.1) (Below.row hb4 Hwn3.out.2.2)))
  have r4 := Below.row hb4 Rwn3.out
  obtain ⟨gg, hgg⟩ : ∃ g, wn1.heap.size = g := ⟨_, rfl⟩
  rw [hgg] at r4 ⊢
  have ke : Calls Tryz.prog 9 #[.agg #[.int .i64 4, .string ⟨#[]⟩, .int .i64 0, .bool false, .int .i64 0, .string ⟨#[]⟩, .slice none 0 0, .slice none 0 0, .slice (some ⟨gg, 0, none⟩) 1 1, .slice none 0 0], .agg #[.int .i64 0, .bool false, .int .i64 0, .string ⟨#[]⟩, .slice none 0 0, .slice none 0 0]] wn4 fun r w' => r = .returned (.tuple #[.agg #[.int .i64 1, .bool true, .int .i64 0, .string ⟨#[]⟩, .slice none 0 0, .slice none 0 0], .int .i64 0]) ∧ Below wn4.heap.size wn4 w' := eval_not (okL false) ⟨rfl, rfl, rfl, rfl⟩ gg wn4 (lt_of_row r4) (at10_row r4 (cs_0 _))
  clear r4 hgg hb4 Rwn3 Gwn3
  go_wp2_with fail
  refine ke.mono ?_
  rintro r wn5 ⟨rfl, hb5⟩
  have Hwn5 := mkHid (And.intro (Hwn4.out.1.trans (hb5.mono Hwn4.out.1.size)) (And.intro (Below.row hb5 Hwn4.out.2.1) (Below.row hb5 Hwn4.out.2.2)))
  obtain ⟨wn6, hw6⟩ : ∃ u, wn5.alloc (.cells #[.int .i64 1, .bool true, .int .i64 0, .string ⟨#[]⟩, .slice none 0 0, .slice none 0 0] 25) = u := ⟨_, rfl⟩
  have Gwn6 := mkHid hw6
  obtain ⟨r6, hb6⟩ := alloc1 hw6
  have Hwn6 := mkHid (And.intro (Hwn5.out.1.trans (hb6.mono Hwn5.out.1.size)) (And.intro (Below.row hb6 Hwn5.out.2.1) (Below.row hb6 Hwn5.out.2.2)))
  obtain ⟨zn, hzn⟩ : ∃ z, wn5.heap.size = z := ⟨_, rfl⟩
  have Ezn := mkHid hzn
  rw [hzn] at r6
  clear ke hb5 hw6 hzn
  have Jwn6 := mkHid (And.intro (Hwn6.out.1) (And.intro (Hwn6.out.2.1) (And.intro (Hwn6.out.2.2) (r6))))
  clear r6 hb6 Hwn1 Hwn3 Hwn4 Hwn5 Hwn6
  have Hwn6 := Jwn6
  clear Jwn6
  have kaw := awake_any wn6 (HEG.out.1.later Hwn6.out.1) (HEG.out.2.later Hwn6.out.1)
  go_wp2_with (first | (rw [Gwn6.out]) | fail)
  rw [Ezn.out]
  refine kaw.mono ?_
  rintro r wz ⟨rfl, hbz⟩
  have HZ : Hid (Below w.heap.size w wz) := Hwn6.out.1.trans (hbz.mono Hwn6.out.1.size)
  have cza : wz.cell? ⟨za, 1, none⟩ = some (.bool false) := cell_of_row wz _ 1 _ _ _ (Below.row hbz Hwn6.out.2.1)
  have czo : wz.cell? ⟨zo, 1, none⟩ = some (.bool false) := cell_of_row wz _ 1 _ _ _ (Below.row hbz Hwn6.out.2.2.1)
  have czn : wz.cell? ⟨zn, 1, none⟩ = some (.bool true) := cell_of_row wz _ 1 _ _ _ (Below.row hbz Hwn6.out.2.2.2)
  clear hbz kaw Hwn6 Gwn6 Ezn Gwo6 Ezo Gwa6 Eza HEG
  go_wp2
  go_ret
  exact ⟨rfl, HZ.out⟩
set_option maxRecDepth 100000 in
set_option maxHeartbeats 8000000 in
theorem truths_01 (a b : Int) (ha : bits .and .i64 a 3 = 0) (hb : bits .and .i64 b 3 = 1) (w : World) (he : Ev w) (hg : Gm w) : Calls Tryz.prog 5 #[.int .i64 a, .int .i64 b] w fun e w' => e = .returned (.bool true) ∧ Below w.heap.size w w' := by
  have HEG : Hid (Ev w ∧ Gm w) := ⟨he, hg⟩
  have Hw : Hid (Below w.heap.size w w) := Below.refl _ _
  clear he hg
  go_enter Tryz.func5, Tryz.ntmps5
  go_wp2_with fail
  refine (lit_0 _).mono ?_
  rintro r wa1 ⟨rfl, hb1⟩
  have Hwa1 := mkHid (Hw.out.trans (hb1.mono Hw.out.size))
  clear hb1
  go_wp2_with fail
  refine (lit_1 _).mono ?_
  rintro r wa2 ⟨rfl, hb2⟩
  have Hwa2 := mkHid (Hwa1.out.trans (hb2.mono Hwa1.out.size))
  clear hb2
  obtain ⟨wa3, hw3⟩ : ∃ u, wa2.alloc (.cells #[.int .i64 1, .string ⟨#[]⟩, .int .i64 1, .bool false, .int .i64 0, .string ⟨#[]⟩, .slice none 0 0, .slice none 0 0, .slice none 0 0, .slice none 0 0, .int .i64 1, .string ⟨#[]⟩, .int .i64 1, .bool true, .int .i64 0, .string ⟨#[]⟩, .slice none 0 0, .slice none 0 0, .slice none 0 0, .slice none 0 0] 28) = u := ⟨_, rfl⟩
  have Gwa3 := mkHid hw3
  obtain ⟨r3, hb3⟩ := alloc1 hw3
  have Hwa3 := mkHid (Hwa2.out.trans (hb3.mono Hwa2.out.size))
  have Rwa3 := mkHid r3
  clear hw3 hb3 r3
  go_wp2_with (first | rw [Gwa3.out] | fail)
  refine (V.vnone _).mono ?_
  rintro r wa4 ⟨rfl, hb4⟩
  have Hwa4 := mkHid (Hwa3.out.trans (hb4.mono Hwa3.out.size))
  have r4 := Below.row hb4 Rwa3.out
  obtain ⟨gg, hgg⟩ : ∃ g, wa2.heap.size = g := ⟨_, rfl⟩
  rw [hgg] at r4 ⊢
  have ke : Calls Tryz.prog 9 #[.agg #[.int .i64 6, .string ⟨#[65, 78, 68]⟩, .int .i64 0, .bool false, .int .i64 0, .string ⟨#[]⟩, .slice none 0 0, .slice none 0 0, .slice (some ⟨gg, 0, none⟩) 2 2, .slice none 0 0], .agg #[.int .i64 0, .bool false, .int .i64 0, .string ⟨#[]⟩, .slice none 0 0, .slice none 0 0]] wa4 fun r w' => r = .returned (.tuple #[.agg #[.int .i64 1, .bool false, .int .i64 0, .string ⟨#[]⟩, .slice none 0 0, .slice none 0 0], .int .i64 0]) ∧ Below wa4.heap.size wa4 w' := eval_and (okL false) (okL true) gg wa4 (lt_of_row r4) (at10_row r4 (cs_0 _)) (at10_row r4 cs_01)
  clear r4 hgg hb4 Rwa3 Gwa3
  go_wp2_with fail
  refine ke.mono ?_
  rintro r wa5 ⟨rfl, hb5⟩
  have Hwa5 := mkHid (Hwa4.out.trans (hb5.mono Hwa4.out.size))
  obtain ⟨wa6, hw6⟩ : ∃ u, wa5.alloc (.cells #[.int .i64 1, .bool false, .int .i64 0, .string ⟨#[]⟩, .slice none 0 0, .slice none 0 0] 25) = u := ⟨_, rfl⟩
  have Gwa6 := mkHid hw6
  obtain ⟨r6, hb6⟩ := alloc1 hw6
  have Hwa6 := mkHid (Hwa5.out.trans (hb6.mono Hwa5.out.size))
  obtain ⟨za, hza⟩ : ∃ z, wa5.heap.size = z := ⟨_, rfl⟩
  have Eza := mkHid hza
  rw [hza] at r6
  clear ke hb5 hw6 hza
  have Jwa6 := mkHid (And.intro (Hwa6.out) (r6))
  clear r6 hb6 Hwa1 Hwa2 Hwa3 Hwa4 Hwa5 Hwa6
  have Hwa6 := Jwa6
  clear Jwa6
  go_wp2_with (first | (rw [Gwa6.out]) | fail)
  rw [Eza.out]
  refine (lit_0 _).mono ?_
  rintro r wo1 ⟨rfl, hb1⟩
  have Hwo1 := mkHid (And.intro (Hwa6.out.1.trans (hb1.mono Hwa6.out.1.size)) (Below.row hb1 Hwa6.out.2))
  clear hb1
  go_wp2_with fail
  refine (lit_1 _).mono ?_
  rintro r wo2 ⟨rfl, hb2⟩
  have Hwo2 := mkHid (And.intro (Hwo1.out.1.trans (hb2.mono Hwo1.out.1.size)) (Below.row hb2 Hwo1.out.2))
  clear hb2
  obtain ⟨wo3, hw3⟩ : ∃ u, wo2.alloc (.cells #[.int .i64 1, .string ⟨#[]⟩, .int .i64 1, .bool false, .int .i64 0, .string ⟨#[]⟩, .slice none 0 0, .slice none 0 0, .slice none 0 0, .slice none 0 0, .int .i64 1, .string ⟨#[]⟩, .int .i64 1, .bool true, .int .i64 0, .string ⟨#[]⟩, .slice none 0 0, .slice none 0 0, .slice none 0 0, .slice none 0 0] 28) = u := ⟨_, rfl⟩
  have Gwo3 := mkHid hw3
  obtain ⟨r3, hb3⟩ := alloc1 hw3
  have Hwo3 := mkHid (And.intro (Hwo2.out.1.trans (hb3.mono Hwo2.out.1.size)) (Below.row hb3 Hwo2.out.2))
  have Rwo3 := mkHid r3
  clear hw3 hb3 r3
  go_wp2_with (first | rw [Gwo3.out] | fail)
  refine (V.vnone _).mono ?_
  rintro r wo4 ⟨rfl, hb4⟩
  have Hwo4 := mkHid (And.intro (Hwo3.out.1.trans (hb4.mono Hwo3.out.1.size)) (Below.row hb4 Hwo3.out.2))
  have r4 := Below.row hb4 Rwo3.out
  obtain ⟨gg, hgg⟩ : ∃ g, wo2.heap.size = g := ⟨_, rfl⟩
  rw [hgg] at r4 ⊢
  have ke : Calls Tryz.prog 9 #[.agg #[.int .i64 6, .string ⟨#[79, 82]⟩, .int .i64 0, .bool false, .int .i64 0, .string ⟨#[]⟩, .slice none 0 0, .slice none 0 0, .slice (some ⟨gg, 0, none⟩) 2 2, .slice none 0 0], .agg #[.int .i64 0, .bool false, .int .i64 0, .string ⟨#[]⟩, .slice none 0 0, .slice none 0 0]] wo4 fun r w' => r = .returned (.tuple #[.agg #[.int .i64 1, .bool true, .int .i64 0, .string ⟨#[]⟩, .slice none 0 0, .slice none 0 0], .int .i64 0]) ∧ Below wo4.heap.size wo4 w' := eval_or (okL false) (okL true) gg wo4 (lt_of_row r4) (at10_row r4 (cs_0 _)) (at10_row r4 cs_01)
  clear r4 hgg hb4 Rwo3 Gwo3
  go_wp2_with fail
  refine ke.mono ?_
  rintro r wo5 ⟨rfl, hb5⟩
  have Hwo5 := mkHid (And.intro (Hwo4.out.1.trans (hb5.mono Hwo4.out.1.size)) (Below.row hb5 Hwo4.out.2))
  obtain ⟨wo6, hw6⟩ : ∃ u, wo5.alloc (.cells #[.int .i64 1, .bool true, .int .i64 0, .string ⟨#[]⟩, .slice none 0 0, .slice none 0 0] 25) = u := ⟨_, rfl⟩
  have Gwo6 := mkHid hw6
  obtain ⟨r6, hb6⟩ := alloc1 hw6
  have Hwo6 := mkHid (And.intro (Hwo5.out.1.trans (hb6.mono Hwo5.out.1.size)) (Below.row hb6 Hwo5.out.2))
  obtain ⟨zo, hzo⟩ : ∃ z, wo5.heap.size = z := ⟨_, rfl⟩
  have Ezo := mkHid hzo
  rw [hzo] at r6
  clear ke hb5 hw6 hzo
  have Jwo6 := mkHid (And.intro (Hwo6.out.1) (And.intro (Hwo6.out.2) (r6)))
  clear r6 hb6 Hwo1 Hwo2 Hwo3 Hwo4 Hwo5 Hwo6
  have Hwo6 := Jwo6
  clear Jwo6
  go_wp2_with (first | (rw [Gwo6.out]) | fail)
  rw [Ezo.out]
  refine (lit_0 _).mono ?_
  rintro r wn1 ⟨rfl, hb1⟩
  have Hwn1 := mkHid (And.intro (Hwo6.out.1.trans (hb1.mono Hwo6.out.1.size)) (And.intro (Below.row hb1 Hwo6.out.2.1) (Below.row hb1 Hwo6.out.2.2)))
  clear hb1
  obtain ⟨wn3, hw3⟩ : ∃ u, wn1.alloc (.cells #[.int .i64 1, .string ⟨#[]⟩, .int .i64 1, .bool false, .int .i64 0, .string ⟨#[]⟩, .slice none 0 0, .slice none 0 0, .slice none 0 0, .slice none 0 0] 28) = u := ⟨_, rfl⟩
  have Gwn3 := mkHid hw3
  obtain ⟨r3, hb3⟩ := alloc1 hw3
  have Hwn3 := mkHid (And.intro (Hwn1.out.1.trans (hb3.mono Hwn1.out.1.size)) (And.intro (Below.row hb3 Hwn1.out.2.1) (Below.row hb3 Hwn1.out.2.2)))
  have Rwn3 := mkHid r3
  clear hw3 hb3 r3
  go_wp2_with (first | rw [Gwn3.out] | fail)
  refine (V.vnone _).mono ?_
  rintro r wn4 ⟨rfl, hb4⟩
  have Hwn4 := mkHid (And.intro (Hwn3.out.1.trans (hb4.mono Hwn3.out.1.size)) (And.intro (Below.row hb4 Hwn3.out.2.1) (Below.row hb4 Hwn3.out.2.2)))
  have r4 := Below.row hb4 Rwn3.out
  obtain ⟨gg, hgg⟩ : ∃ g, wn1.heap.size = g := ⟨_, rfl⟩
  rw [hgg] at r4 ⊢
  have ke : Calls Tryz.prog 9 #[.agg #[.int .i64 4, .string ⟨#[]⟩, .int .i64 0, .bool false, .int .i64 0, .string ⟨#[]⟩, .slice none 0 0, .slice none 0 0, .slice (some ⟨gg, 0, none⟩) 1 1, .slice none 0 0], .agg #[.int .i64 0, .bool false, .int .i64 0, .string ⟨#[]⟩, .slice none 0 0, .slice none 0 0]] wn4 fun r w' => r = .returned (.tuple #[.agg #[.int .i64 1, .bool true, .int .i64 0, .string ⟨#[]⟩, .slice none 0 0, .slice none 0 0], .int .i64 0]) ∧ Below wn4.heap.size wn4 w' := eval_not (okL false) ⟨rfl, rfl, rfl, rfl⟩ gg wn4 (lt_of_row r4) (at10_row r4 (cs_0 _))
  clear r4 hgg hb4 Rwn3 Gwn3
  go_wp2_with fail
  refine ke.mono ?_
  rintro r wn5 ⟨rfl, hb5⟩
  have Hwn5 := mkHid (And.intro (Hwn4.out.1.trans (hb5.mono Hwn4.out.1.size)) (And.intro (Below.row hb5 Hwn4.out.2.1) (Below.row hb5 Hwn4.out.2.2)))
  obtain ⟨wn6, hw6⟩ : ∃ u, wn5.alloc (.cells #[.int .i64 1, .bool true, .int .i64 0, .string ⟨#[]⟩, .slice none 0 0, .slice none 0 0] 25) = u := ⟨_, rfl⟩
  have Gwn6 := mkHid hw6
  obtain ⟨r6, hb6⟩ := alloc1 hw6
  have Hwn6 := mkHid (And.intro (Hwn5.out.1.trans (hb6.mono Hwn5.out.1.size)) (And.intro (Below.row hb6 Hwn5.out.2.1) (Below.row hb6 Hwn5.out.2.2)))
  obtain ⟨zn, hzn⟩ : ∃ z, wn5.heap.size = z := ⟨_, rfl⟩
  have Ezn := mkHid hzn
  rw [hzn] at r6
  clear ke hb5 hw6 hzn
  have Jwn6 := mkHid (And.intro (Hwn6.out.1) (And.intro (Hwn6.out.2.1) (And.intro (Hwn6.out.2.2) (r6))))
  clear r6 hb6 Hwn1 Hwn3 Hwn4 Hwn5 Hwn6
  have Hwn6 := Jwn6
  clear Jwn6
  have kaw := awake_any wn6 (HEG.out.1.later Hwn6.out.1) (HEG.out.2.later Hwn6.out.1)
  go_wp2_with (first | (rw [Gwn6.out]) | fail)
  rw [Ezn.out]
  refine kaw.mono ?_
  rintro r wz ⟨rfl, hbz⟩
  have HZ : Hid (Below w.heap.size w wz) := Hwn6.out.1.trans (hbz.mono Hwn6.out.1.size)
  have cza : wz.cell? ⟨za, 1, none⟩ = some (.bool false) := cell_of_row wz _ 1 _ _ _ (Below.row hbz Hwn6.out.2.1)
  have czo : wz.cell? ⟨zo, 1, none⟩ = some (.bool true) := cell_of_row wz _ 1 _ _ _ (Below.row hbz Hwn6.out.2.2.1)
  have czn : wz.cell? ⟨zn, 1, none⟩ = some (.bool true) := cell_of_row wz _ 1 _ _ _ (Below.row hbz Hwn6.out.2.2.2)
  clear hbz kaw Hwn6 Gwn6 Ezn Gwo6 Ezo Gwa6 Eza HEG
  go_wp2
  go_ret
  exact ⟨rfl, HZ.out⟩
set_option maxRecDepth 100000 in
set_option maxHeartbeats 8000000 in
theorem truths_02 (a b : Int) (ha : bits .and .i64 a 3 = 0) (hb : bits .and .i64 b 3 = 2) (w : World) (he : Ev w) (hg : Gm w) : Calls Tryz.prog 5 #[.int .i64 a, .int .i64 b] w fun e w' => e = .returned (.bool true) ∧ Below w.heap.size w w' := by
  have HEG : Hid (Ev w ∧ Gm w) := ⟨he, hg⟩
  have Hw : Hid (Below w.heap.size w w) := Below.refl _ _
  clear he hg
  go_enter Tryz.func5, Tryz.ntmps5
  go_wp2_with fail
  refine (lit_0 _).mono ?_
  rintro r wa1 ⟨rfl, hb1⟩
  have Hwa1 := mkHid (Hw.out.trans (hb1.mono Hw.out.size))
  clear hb1
  go_wp2_with fail
  refine (lit_2 _).mono ?_
  rintro r wa2 ⟨rfl, hb2⟩
  have Hwa2 := mkHid (Hwa1.out.trans (hb2.mono Hwa1.out.size))
  clear hb2
  obtain ⟨wa3, hw3⟩ : ∃ u, wa2.alloc (.cells #[.int .i64 1, .string ⟨#[]⟩, .int .i64 1, .bool false, .int .i64 0, .string ⟨#[]⟩, .slice none 0 0, .slice none 0 0, .slice none 0 0, .slice none 0 0, .int .i64 1, .string ⟨#[]⟩, .int .i64 0, .bool false, .int .i64 0, .string ⟨#[]⟩, .slice none 0 0, .slice none 0 0, .slice none 0 0, .slice none 0 0] 28) = u := ⟨_, rfl⟩
  have Gwa3 := mkHid hw3
  obtain ⟨r3, hb3⟩ := alloc1 hw3
  have Hwa3 := mkHid (Hwa2.out.trans (hb3.mono Hwa2.out.size))
  have Rwa3 := mkHid r3
  clear hw3 hb3 r3
  go_wp2_with (first | rw [Gwa3.out] | fail)
  refine (V.vnone _).mono ?_
  rintro r wa4 ⟨rfl, hb4⟩
  have Hwa4 := mkHid (Hwa3.out.trans (hb4.mono Hwa3.out.size))
  have r4 := Below.row hb4 Rwa3.out
  obtain ⟨gg, hgg⟩ : ∃ g, wa2.heap.size = g := ⟨_, rfl⟩
  rw [hgg] at r4 ⊢
  have ke : Calls Tryz.prog 9 #[.agg #[.int .i64 6, .string ⟨#[65, 78, 68]⟩, .int .i64 0, .bool false, .int .i64 0, .string ⟨#[]⟩, .slice none 0 0, .slice none 0 0, .slice (some ⟨gg, 0, none⟩) 2 2, .slice none 0 0], .agg #[.int .i64 0, .bool false, .int .i64 0, .string ⟨#[]⟩, .slice none 0 0, .slice none 0 0]] wa4 fun r w' => r = .returned (.tuple #[.agg #[.int .i64 1, .bool false, .int .i64 0, .string ⟨#[]⟩, .slice none 0 0, .slice none 0 0], .int .i64 0]) ∧ Below wa4.heap.size wa4 w' := eval_and (okL false) (noL) gg wa4 (lt_of_row r4) (at10_row r4 (cs_0 _)) (at10_row r4 cs_02)
  clear r4 hgg hb4 Rwa3 Gwa3
  go_wp2_with fail
  refine ke.mono ?_
  rintro r wa5 ⟨rfl, hb5⟩
  have Hwa5 := mkHid (Hwa4.out.trans (hb5.mono Hwa4.out.size))
  obtain ⟨wa6, hw6⟩ : ∃ u, wa5.alloc (.cells #[.int .i64 1, .bool false, .int .i64 0, .string ⟨#[]⟩, .slice none 0 0, .slice none 0 0] 25) = u := ⟨_, rfl⟩
  have Gwa6 := mkHid hw6
  obtain ⟨r6, hb6⟩ := alloc1 hw6
  have Hwa6 := mkHid (Hwa5.out.trans (hb6.mono Hwa5.out.size))
  obtain ⟨za, hza⟩ : ∃ z, wa5.heap.size = z := ⟨_, rfl⟩
  have Eza := mkHid hza
  rw [hza] at r6
  clear ke hb5 hw6 hza
  have Jwa6 := mkHid (And.intro (Hwa6.out) (r6))
  clear r6 hb6 Hwa1 Hwa2 Hwa3 Hwa4 Hwa5 Hwa6
  have Hwa6 := Jwa6
  clear Jwa6
  go_wp2_with (first | (rw [Gwa6.out]) | fail)
  rw [Eza.out]
  refine (lit_0 _).mono ?_
  rintro r wo1 ⟨rfl, hb1⟩
  have Hwo1 := mkHid (And.intro (Hwa6.out.1.trans (hb1.mono Hwa6.out.1.size)) (Below.row hb1 Hwa6.out.2))
  clear hb1
  go_wp2_with fail
  refine (lit_2 _).mono ?_
  rintro r wo2 ⟨rfl, hb2⟩
  have Hwo2 := mkHid (And.intro (Hwo1.out.1.trans (hb2.mono Hwo1.out.1.size)) (Below.row hb2 Hwo1.out.2))
  clear hb2
  obtain ⟨wo3, hw3⟩ : ∃ u, wo2.alloc (.cells #[.int .i64 1, .string ⟨#[]⟩, .int .i64 1, .bool false, .int .i64 0, .string ⟨#[]⟩, .slice none 0 0, .slice none 0 0, .slice none 0 0, .slice none 0 0, .int .i64 1, .string ⟨#[]⟩, .int .i64 0, .bool false, .int .i64 0, .string ⟨#[]⟩, .slice none 0 0, .slice none 0 0, .slice none 0 0, .slice none 0 0] 28) = u := ⟨_, rfl⟩
  have Gwo3 := mkHid hw3
  obtain ⟨r3, hb3⟩ := alloc1 hw3
  have Hwo3 := mkHid (And.intro (Hwo2.out.1.trans (hb3.mono Hwo2.out.1.size)) (Below.row hb3 Hwo2.out.2))
  have Rwo3 := mkHid r3
  clear hw3 hb3 r3
  go_wp2_with (first | rw [Gwo3.out] | fail)
  refine (V.vnone _).mono ?_
  rintro r wo4 ⟨rfl, hb4⟩
  have Hwo4 := mkHid (And.intro (Hwo3.out.1.trans (hb4.mono Hwo3.out.1.size)) (Below.row hb4 Hwo3.out.2))
  have r4 := Below.row hb4 Rwo3.out
  obtain ⟨gg, hgg⟩ : ∃ g, wo2.heap.size = g := ⟨_, rfl⟩
  rw [hgg] at r4 ⊢
  have ke : Calls Tryz.prog 9 #[.agg #[.int .i64 6, .string ⟨#[79, 82]⟩, .int .i64 0, .bool false, .int .i64 0, .string ⟨#[]⟩, .slice none 0 0, .slice none 0 0, .slice (some ⟨gg, 0, none⟩) 2 2, .slice none 0 0], .agg #[.int .i64 0, .bool false, .int .i64 0, .string ⟨#[]⟩, .slice none 0 0, .slice none 0 0]] wo4 fun r w' => r = .returned (.tuple #[.agg #[.int .i64 1, .bool false, .int .i64 0, .string ⟨#[]⟩, .slice none 0 0, .slice none 0 0], .int .i64 0]) ∧ Below wo4.heap.size wo4 w' := eval_or (okL false) (noL) gg wo4 (lt_of_row r4) (at10_row r4 (cs_0 _)) (at10_row r4 cs_02)
  clear r4 hgg hb4 Rwo3 Gwo3
  go_wp2_with fail
  refine ke.mono ?_
  rintro r wo5 ⟨rfl, hb5⟩
  have Hwo5 := mkHid (And.intro (Hwo4.out.1.trans (hb5.mono Hwo4.out.1.size)) (Below.row hb5 Hwo4.out.2))
  obtain ⟨wo6, hw6⟩ : ∃ u, wo5.alloc (.cells #[.int .i64 1, .bool false, .int .i64 0, .string ⟨#[]⟩, .slice none 0 0, .slice none 0 0] 25) = u := ⟨_, rfl⟩
  have Gwo6 := mkHid hw6
  obtain ⟨r6, hb6⟩ := alloc1 hw6
  have Hwo6 := mkHid (And.intro (Hwo5.out.1.trans (hb6.mono Hwo5.out.1.size)) (Below.row hb6 Hwo5.out.2))
  obtain ⟨zo, hzo⟩ : ∃ z, wo5.heap.size = z := ⟨_, rfl⟩
  have Ezo := mkHid hzo
  rw [hzo] at r6
  clear ke hb5 hw6 hzo
  have Jwo6 := mkHid (And.intro (Hwo6.out.1) (And.intro (Hwo6.out.2) (r6)))
  clear r6 hb6 Hwo1 Hwo2 Hwo3 Hwo4 Hwo5 Hwo6
  have Hwo6 := Jwo6
  clear Jwo6
  go_wp2_with (first | (rw [Gwo6.out]) | fail)
  rw [Ezo.out]
  refine (lit_0 _).mono ?_
  rintro r wn1 ⟨rfl, hb1⟩
  have Hwn1 := mkHid (And.intro (Hwo6.out.1.trans (hb1.mono Hwo6.out.1.size)) (And.intro (Below.row hb1 Hwo6.out.2.1) (Below.row hb1 Hwo6.out.2.2)))
  clear hb1
  obtain ⟨wn3, hw3⟩ : ∃ u, wn1.alloc (.cells #[.int .i64 1, .string ⟨#[]⟩, .int .i64 1, .bool false, .int .i64 0, .string ⟨#[]⟩, .slice none 0 0, .slice none 0 0, .slice none 0 0, .slice none 0 0] 28) = u := ⟨_, rfl⟩
  have Gwn3 := mkHid hw3
  obtain ⟨r3, hb3⟩ := alloc1 hw3
  have Hwn3 := mkHid (And.intro (Hwn1.out.1.trans (hb3.mono Hwn1.out.1.size)) (And.intro (Below.row hb3 Hwn1.out.2.1) (Below.row hb3 Hwn1.out.2.2)))
  have Rwn3 := mkHid r3
  clear hw3 hb3 r3
  go_wp2_with (first | rw [Gwn3.out] | fail)
  refine (V.vnone _).mono ?_
  rintro r wn4 ⟨rfl, hb4⟩
  have Hwn4 := mkHid (And.intro (Hwn3.out.1.trans (hb4.mono Hwn3.out.1.size)) (And.intro (Below.row hb4 Hwn3.out.2.1) (Below.row hb4 Hwn3.out.2.2)))
  have r4 := Below.row hb4 Rwn3.out
  obtain ⟨gg, hgg⟩ : ∃ g, wn1.heap.size = g := ⟨_, rfl⟩
  rw [hgg] at r4 ⊢
  have ke : Calls Tryz.prog 9 #[.agg #[.int .i64 4, .string ⟨#[]⟩, .int .i64 0, .bool false, .int .i64 0, .string ⟨#[]⟩, .slice none 0 0, .slice none 0 0, .slice (some ⟨gg, 0, none⟩) 1 1, .slice none 0 0], .agg #[.int .i64 0, .bool false, .int .i64 0, .string ⟨#[]⟩, .slice none 0 0, .slice none 0 0]] wn4 fun r w' => r = .returned (.tuple #[.agg #[.int .i64 1, .bool true, .int .i64 0, .string ⟨#[]⟩, .slice none 0 0, .slice none 0 0], .int .i64 0]) ∧ Below wn4.heap.size wn4 w' := eval_not (okL false) ⟨rfl, rfl, rfl, rfl⟩ gg wn4 (lt_of_row r4) (at10_row r4 (cs_0 _))
  clear r4 hgg hb4 Rwn3 Gwn3
  go_wp2_with fail
  refine ke.mono ?_
  rintro r wn5 ⟨rfl, hb5⟩
  have Hwn5 := mkHid (And.intro (Hwn4.out.1.trans (hb5.mono Hwn4.out.1.size)) (And.intro (Below.row hb5 Hwn4.out.2.1) (Below.row hb5 Hwn4.out.2.2)))
  obtain ⟨wn6, hw6⟩ : ∃ u, wn5.alloc (.cells #[.int .i64 1, .bool true, .int .i64 0, .string ⟨#[]⟩, .slice none 0 0, .slice none 0 0] 25) = u := ⟨_, rfl⟩
  have Gwn6 := mkHid hw6
  obtain ⟨r6, hb6⟩ := alloc1 hw6
  have Hwn6 := mkHid (And.intro (Hwn5.out.1.trans (hb6.mono Hwn5.out.1.size)) (And.intro (Below.row hb6 Hwn5.out.2.1) (Below.row hb6 Hwn5.out.2.2)))
  obtain ⟨zn, hzn⟩ : ∃ z, wn5.heap.size = z := ⟨_, rfl⟩
  have Ezn := mkHid hzn
  rw [hzn] at r6
  clear ke hb5 hw6 hzn
  have Jwn6 := mkHid (And.intro (Hwn6.out.1) (And.intro (Hwn6.out.2.1) (And.intro (Hwn6.out.2.2) (r6))))
  clear r6 hb6 Hwn1 Hwn3 Hwn4 Hwn5 Hwn6
  have Hwn6 := Jwn6
  clear Jwn6
  have kaw := awake_any wn6 (HEG.out.1.later Hwn6.out.1) (HEG.out.2.later Hwn6.out.1)
  go_wp2_with (first | (rw [Gwn6.out]) | fail)
  rw [Ezn.out]
  refine kaw.mono ?_
  rintro r wz ⟨rfl, hbz⟩
  have HZ : Hid (Below w.heap.size w wz) := Hwn6.out.1.trans (hbz.mono Hwn6.out.1.size)
  have cza : wz.cell? ⟨za, 1, none⟩ = some (.bool false) := cell_of_row wz _ 1 _ _ _ (Below.row hbz Hwn6.out.2.1)
  have czo : wz.cell? ⟨zo, 1, none⟩ = some (.bool false) := cell_of_row wz _ 1 _ _ _ (Below.row hbz Hwn6.out.2.2.1)
  have czn : wz.cell? ⟨zn, 1, none⟩ = some (.bool true) := cell_of_row wz _ 1 _ _ _ (Below.row hbz Hwn6.out.2.2.2)
  clear hbz kaw Hwn6 Gwn6 Ezn Gwo6 Ezo Gwa6 Eza HEG
  go_wp2
  go_ret
  exact ⟨rfl, HZ.out⟩
set_option maxRecDepth 100000 in
set_option maxHeartbeats 8000000 in
theorem truths_03 (a b : Int) (ha : bits .and .i64 a 3 = 0) (hb : bits .and .i64 b 3 = 3) (w : World) (he : Ev w) (hg : Gm w) : Calls Tryz.prog 5 #[.int .i64 a, .int .i64 b] w fun e w' => e = .returned (.bool true) ∧ Below w.heap.size w w' := by
  have HEG : Hid (Ev w ∧ Gm w) := ⟨he, hg⟩
  have Hw : Hid (Below w.heap.size w w) := Below.refl _ _
  clear he hg
  go_enter Tryz.func5, Tryz.ntmps5
  go_wp2_with fail
  refine (lit_0 _).mono ?_
  rintro r wa1 ⟨rfl, hb1⟩
  have Hwa1 := mkHid (Hw.out.trans (hb1.mono Hw.out.size))
  clear hb1
  go_wp2_with fail
  refine (lit_3 _).mono ?_
  rintro r wa2 ⟨rfl, hb2⟩
  have Hwa2 := mkHid (Hwa1.out.trans (hb2.mono Hwa1.out.size))
  clear hb2
  obtain ⟨wa3, hw3⟩ : ∃ u, wa2.alloc (.cells #[.int .i64 1, .string ⟨#[]⟩, .int .i64 1, .bool false, .int .i64 0, .string ⟨#[]⟩, .slice none 0 0, .slice none 0 0, .slice none 0 0, .slice none 0 0, .int .i64 1, .string ⟨#[]⟩, .int .i64 2, .bool false, .int .i64 1, .string ⟨#[]⟩, .slice none 0 0, .slice none 0 0, .slice none 0 0, .slice none 0 0] 28) = u := ⟨_, rfl⟩
  have Gwa3 := mkHid hw3
  obtain ⟨r3, hb3⟩ := alloc1 hw3
  have Hwa3 := mkHid (Hwa2.out.trans (hb3.mono Hwa2.out.size))
  have Rwa3 := mkHid r3
  clear hw3 hb3 r3
  go_wp2_with (first | rw [Gwa3.out] | fail)
  refine (V.vnone _).mono ?_
  rintro r wa4 ⟨rfl, hb4⟩
  have Hwa4 := mkHid (Hwa3.out.trans (hb4.mono Hwa3.out.size))
  have r4 := Below.row hb4 Rwa3.out
  obtain ⟨gg, hgg⟩ : ∃ g, wa2.heap.size = g := ⟨_, rfl⟩
  rw [hgg] at r4 ⊢
  have ke : Calls Tryz.prog 9 #[.agg #[.int .i64 6, .string ⟨#[65, 78, 68]⟩, .int .i64 0, .bool false, .int .i64 0, .string ⟨#[]⟩, .slice none 0 0, .slice none 0 0, .slice (some ⟨gg, 0, none⟩) 2 2, .slice none 0 0], .agg #[.int .i64 0, .bool false, .int .i64 0, .string ⟨#[]⟩, .slice none 0 0, .slice none 0 0]] wa4 fun r w' => r = .returned (.tuple #[.agg #[.int .i64 1, .bool false, .int .i64 0, .string ⟨#[]⟩, .slice none 0 0, .slice none 0 0], .int .i64 0]) ∧ Below wa4.heap.size wa4 w' := eval_and (okL false) (inL 1) gg wa4 (lt_of_row r4) (at10_row r4 (cs_0 _)) (at10_row r4 cs_03)
  clear r4 hgg hb4 Rwa3 Gwa3
  go_wp2_with fail
  refine ke.mono ?_
  rintro r wa5 ⟨rfl, hb5⟩
  have Hwa5 := mkHid (Hwa4.out.trans (hb5.mono Hwa4.out.size))
  obtain ⟨wa6, hw6⟩ : ∃ u, wa5.alloc (.cells #[.int .i64 1, .bool false, .int .i64 0, .string ⟨#[]⟩, .slice none 0 0, .slice none 0 0] 25) = u := ⟨_, rfl⟩
  have Gwa6 := mkHid hw6
  obtain ⟨r6, hb6⟩ := alloc1 hw6
  have Hwa6 := mkHid (Hwa5.out.trans (hb6.mono Hwa5.out.size))
  obtain ⟨za, hza⟩ : ∃ z, wa5.heap.size = z := ⟨_, rfl⟩
  have Eza := mkHid hza
  rw [hza] at r6
  clear ke hb5 hw6 hza
  have Jwa6 := mkHid (And.intro (Hwa6.out) (r6))
  clear r6 hb6 Hwa1 Hwa2 Hwa3 Hwa4 Hwa5 Hwa6
  have Hwa6 := Jwa6
  clear Jwa6
  go_wp2_with (first | (rw [Gwa6.out]) | fail)
  rw [Eza.out]
  refine (lit_0 _).mono ?_
  rintro r wo1 ⟨rfl, hb1⟩
  have Hwo1 := mkHid (And.intro (Hwa6.out.1.trans (hb1.mono Hwa6.out.1.size)) (Below.row hb1 Hwa6.out.2))
  clear hb1
  go_wp2_with fail
  refine (lit_3 _).mono ?_
  rintro r wo2 ⟨rfl, hb2⟩
  have Hwo2 := mkHid (And.intro (Hwo1.out.1.trans (hb2.mono Hwo1.out.1.size)) (Below.row hb2 Hwo1.out.2))
  clear hb2
  obtain ⟨wo3, hw3⟩ : ∃ u, wo2.alloc (.cells #[.int .i64 1, .string ⟨#[]⟩, .int .i64 1, .bool false, .int .i64 0, .string ⟨#[]⟩, .slice none 0 0, .slice none 0 0, .slice none 0 0, .slice none 0 0, .int .i64 1, .string ⟨#[]⟩, .int .i64 2, .bool false, .int .i64 1, .string ⟨#[]⟩, .slice none 0 0, .slice none 0 0, .slice none 0 0, .slice none 0 0] 28) = u := ⟨_, rfl⟩
  have Gwo3 := mkHid hw3
  obtain ⟨r3, hb3⟩ := alloc1 hw3
  have Hwo3 := mkHid (And.intro (Hwo2.out.1.trans (hb3.mono Hwo2.out.1.size)) (Below.row hb3 Hwo2.out.2))
  have Rwo3 := mkHid r3
  clear hw3 hb3 r3
  go_wp2_with (first | rw [Gwo3.out] | fail)
  refine (V.vnone _).mono ?_
  rintro r wo4 ⟨rfl, hb4⟩
  have Hwo4 := mkHid (And.intro (Hwo3.out.1.trans (hb4.mono Hwo3.out.1.size)) (Below.row hb4 Hwo3.out.2))
  have r4 := Below.row hb4 Rwo3.out
  obtain ⟨gg, hgg⟩ : ∃ g, wo2.heap.size = g := ⟨_, rfl⟩
  rw [hgg] at r4 ⊢
  have ke : Calls Tryz.prog 9 #[.agg #[.int .i64 6, .string ⟨#[79, 82]⟩, .int .i64 0, .bool false, .int .i64 0, .string ⟨#[]⟩, .slice none 0 0, .slice none 0 0, .slice (some ⟨gg, 0, none⟩) 2 2, .slice none 0 0], .agg #[.int .i64 0, .bool false, .int .i64 0, .string ⟨#[]⟩, .slice none 0 0, .slice none 0 0]] wo4 fun r w' => r = .returned (.tuple #[.agg #[.int .i64 0, .bool false, .int .i64 0, .string ⟨#[]⟩, .slice none 0 0, .slice none 0 0], .int .i64 131]) ∧ Below wo4.heap.size wo4 w' := eval_or (okL false) (inL 1) gg wo4 (lt_of_row r4) (at10_row r4 (cs_0 _)) (at10_row r4 cs_03)
  clear r4 hgg hb4 Rwo3 Gwo3
  go_wp2_with fail
  refine ke.mono ?_
  rintro r wo5 ⟨rfl, hb5⟩
  have Hwo5 := mkHid (And.intro (Hwo4.out.1.trans (hb5.mono Hwo4.out.1.size)) (Below.row hb5 Hwo4.out.2))
  obtain ⟨wo6, hw6⟩ : ∃ u, wo5.alloc (.cells #[.int .i64 0, .bool false, .int .i64 0, .string ⟨#[]⟩, .slice none 0 0, .slice none 0 0] 25) = u := ⟨_, rfl⟩
  have Gwo6 := mkHid hw6
  obtain ⟨r6, hb6⟩ := alloc1 hw6
  have Hwo6 := mkHid (And.intro (Hwo5.out.1.trans (hb6.mono Hwo5.out.1.size)) (Below.row hb6 Hwo5.out.2))
  obtain ⟨zo, hzo⟩ : ∃ z, wo5.heap.size = z := ⟨_, rfl⟩
  have Ezo := mkHid hzo
  rw [hzo] at r6
  clear ke hb5 hw6 hzo
  have Jwo6 := mkHid (And.intro (Hwo6.out.1) (And.intro (Hwo6.out.2) (r6)))
  clear r6 hb6 Hwo1 Hwo2 Hwo3 Hwo4 Hwo5 Hwo6
  have Hwo6 := Jwo6
  clear Jwo6
  go_wp2_with fail
  rw [Gwo6.out, Ezo.out]
  refine (lit_0 _).mono ?_
  rintro r wn1 ⟨rfl, hb1⟩
  have Hwn1 := mkHid (And.intro (Hwo6.out.1.trans (hb1.mono Hwo6.out.1.size)) (And.intro (Below.row hb1 Hwo6.out.2.1) (Below.row hb1 Hwo6.out.2.2)))
  clear hb1
  obtain ⟨wn3, hw3⟩ : ∃ u, wn1.alloc (.cells #[.int .i64 1, .string ⟨#[]⟩, .int .i64 1, .bool false, .int .i64 0, .string ⟨#[]⟩, .slice none 0 0, .slice none 0 0, .slice none 0 0, .slice none 0 0] 28) = u := ⟨_, rfl⟩
  have Gwn3 := mkHid hw3
  obtain ⟨r3, hb3⟩ := alloc1 hw3
  have Hwn3 := mkHid (And.intro (Hwn1.out.1.trans (hb3.mono Hwn1.out.1.size)) (And.intro (Below.row hb3 Hwn1.out.2.1) (Below.row hb3 Hwn1.out.2.2)))
  have Rwn3 := mkHid r3
  clear hw3 hb3 r3
  go_wp2_with (first | rw [Gwn3.out] | fail)
  refine (V.vnone _).mono ?_
  rintro r wn4 ⟨rfl, hb4⟩
  have Hwn4 := mkHid (And.intro (Hwn3.out.1.trans (hb4.mono Hwn3.out.1.size)) (And.intro (Below.row hb4 Hwn3.out.2.1) (Below.row hb4 Hwn3.out.2.2)))
  have r4 := Below.row hb4 Rwn3.out
  obtain ⟨gg, hgg⟩ : ∃ g, wn1.heap.size = g := ⟨_, rfl⟩
  rw [hgg] at r4 ⊢
  have ke : Calls Tryz.prog 9 #[.agg #[.int .i64 4, .string ⟨#[]⟩, .int .i64 0, .bool false, .int .i64 0, .string ⟨#[]⟩, .slice none 0 0, .slice none 0 0, .slice (some ⟨gg, 0, none⟩) 1 1, .slice none 0 0], .agg #[.int .i64 0, .bool false, .int .i64 0, .string ⟨#[]⟩, .slice none 0 0, .slice none 0 0]] wn4 fun r w' => r = .returned (.tuple #[.agg #[.int .i64 1, .bool true, .int .i64 0, .string ⟨#[]⟩, .slice none 0 0, .slice none 0 0], .int .i64 0]) ∧ Below wn4.heap.size wn4 w' := eval_not (okL false) ⟨rfl, rfl, rfl, rfl⟩ gg wn4 (lt_of_row r4) (at10_row r4 (cs_0 _))
  clear r4 hgg hb4 Rwn3 Gwn3
  go_wp2_with fail
  refine ke.mono ?_
  rintro r wn5 ⟨rfl, hb5⟩
  have Hwn5 := mkHid (And.intro (Hwn4.out.1.trans (hb5.mono Hwn4.out.1.size)) (And.intro (Below.row hb5 Hwn4.out.2.1) (Below.row hb5 Hwn4.out.2.2)))
  obtain ⟨wn6, hw6⟩ : ∃ u, wn5.alloc (.cells #[.int .i64 1, .bool true, .int .i64 0, .string ⟨#[]⟩, .slice none 0 0, .slice none 0 0] 25) = u := ⟨_, rfl⟩
  have Gwn6 := mkHid hw6
  obtain ⟨r6, hb6⟩ := alloc1 hw6
  have Hwn6 := mkHid (And.intro (Hwn5.out.1.trans (hb6.mono Hwn5.out.1.size)) (And.intro (Below.row hb6 Hwn5.out.2.1) (Below.row hb6 Hwn5.out.2.2)))
  obtain ⟨zn, hzn⟩ : ∃ z, wn5.heap.size = z := ⟨_, rfl⟩
  have Ezn := mkHid hzn
  rw [hzn] at r6
  clear ke hb5 hw6 hzn
  have Jwn6 := mkHid (And.intro (Hwn6.out.1) (And.intro (Hwn6.out.2.1) (And.intro (Hwn6.out.2.2) (r6))))
  clear r6 hb6 Hwn1 Hwn3 Hwn4 Hwn5 Hwn6
  have Hwn6 := Jwn6
  clear Jwn6
  have kaw := awake_any wn6 (HEG.out.1.later Hwn6.out.1) (HEG.out.2.later Hwn6.out.1)
  go_wp2_with (first | (rw [Gwn6.out]) | fail)
  rw [Ezn.out]
  refine kaw.mono ?_
  rintro r wz ⟨rfl, hbz⟩
  have HZ : Hid (Below w.heap.size w wz) := Hwn6.out.1.trans (hbz.mono Hwn6.out.1.size)
  have cza : wz.cell? ⟨za, 1, none⟩ = some (.bool false) := cell_of_row wz _ 1 _ _ _ (Below.row hbz Hwn6.out.2.1)
  have czo : wz.cell? ⟨zo, 1, none⟩ = some (.bool false) := cell_of_row wz _ 1 _ _ _ (Below.row hbz Hwn6.out.2.2.1)
  have czn : wz.cell? ⟨zn, 1, none⟩ = some (.bool true) := cell_of_row wz _ 1 _ _ _ (Below.row hbz Hwn6.out.2.2.2)
  clear hbz kaw Hwn6 Gwn6 Ezn Gwo6 Ezo Gwa6 Eza HEG
  go_wp2
  go_ret
  exact ⟨rfl, HZ.out⟩
end Go.Proofs.YtnnclhmhbmbkfaaGreatDoor
