/- EvalTruths called, where its first argument's two lowest bits are 3. EvalTruths called. What the rows' proofs share: the library's variables ErrRange and ErrSyntax, as their texts lay them, hold errors. No condition of our own. The frame of a tied row's proof that keeps the world's shape beside what is laid; a variable of the library's that holds some number. -/
import Derived.Test.YtnnclhmhbmbkfaaGreatDoorXau
import Derived.Test.YtnnclhmhbmbkfaaGreatDoorTr0
import Derived.Test.YtnnclhmhbmbkfaaGreatDoorTr1
import Derived.Test.YtnnclhmhbmbkfaaGreatDoorTr2
import Derived.Test.YtnnclhmhbmbkfaaGreatDoorRows
import Derived.Test.YtnnclhmhbmbkfaaGreatDoorNum
import Derived.ProofKit
import Derived.LaidMore
import Derived.OpenShut
import Derived.ShutString
import Derived.Stop.Joined
import Derived.Stop.LaidErr
import Derived.Test.YtnnclhmhbmbkfaaGreatDoorXab
import Derived.HandedShaped
import Derived.Handed
import Derived.Shelf.Vars
namespace Go.Proofs.YtnnclhmhbmbkfaaGreatDoor
open Go.RowKit Go.Shelf
attribute [local go_sem] Oper.semAt_some
set_option maxRecDepth 100000 in
set_option maxHeartbeats 8000000 in
theorem truths_30 (a b : Int) (ha : bits .and .i64 a 3 = 3) (hb : bits .and .i64 b 3 = 0) (w : World) (he : Ev w) (hg : Gm w) : Calls Tryz.prog 5 #[.int .i64 a, .int .i64 b] w fun e w' => e = .returned (.bool true) ∧ Below w.heap.size w w' := by
  have HEG : Hid (Ev w ∧ Gm w) := ⟨he, hg⟩
  have Hw : Hid (Below w.heap.size w w) := Below.refl _ _
  clear he hg
  go_enter Tryz.func5, Tryz.ntmps5
  go_wp2_with fail
  refine (lit_3 _).mono ?_
  rintro r wa1 ⟨rfl, hb1⟩
  have Hwa1 := mkHid (Hw.out.trans (hb1.mono Hw.out.size))
  clear hb1
  go_wp2_with fail
  refine (lit_0 _).mono ?_
  rintro r wa2 ⟨rfl, hb2⟩
  have Hwa2 := mkHid (Hwa1.out.trans (hb2.mono Hwa1.out.size))
  clear hb2
  obtain ⟨wa3, hw3⟩ : ∃ u, wa2.alloc (.cells #[.int .i64 1, .string ⟨#[]⟩, .int .i64 2, .bool false, .int .i64 1, .string ⟨#[]⟩, .slice none 0 0, .slice none 0 0, .slice none 0 0, .slice none 0 0, .int .i64 1, .string ⟨#[]⟩, .int .i64 1, .bool false, .int .i64 0, .string ⟨#[]⟩, .slice none 0 0, .slice none 0 0, .slice none 0 0, .slice none 0 0] 28) = u := ⟨_, rfl⟩
  have Gwa3 := mkHid hw3
  obtain ⟨r3, hb3⟩ := alloc1 hw3
  have Hwa3 := mkHid (Hwa2.out.trans (hb3.mono Hwa2.out.size))
  have Rwa3 := mkHid r3
  clear hw3 hb3 r3
  go_wp2_with (first | rw [Gwa3.out] | fail)
  refine (V.vnone _).mono ?_
  rintro r wa4 ⟨rfl, hb4⟩
  have Hwa4 := mkHid (Hwa3.out.trans (hb4.mono Hwa3.out.size))
  have r4 := Below.row hb4 Rwa3.out
  obtain ⟨gg, hgg⟩ : ∃ g, wa2.heap.size = g := ⟨_, rfl⟩
  rw [hgg] at r4 ⊢
  have ke : Calls Tryz.prog 9 #[.agg #[.int .i64 6, .string ⟨#[65, 78, 68]⟩, .int .i64 0, .bool false, .int .i64 0, .string ⟨#[]⟩, .slice none 0 0, .slice none 0 0, .slice (some ⟨gg, 0, none⟩) 2 2, .slice none 0 0], .agg #[.int .i64 0, .bool false, .int .i64 0, .string ⟨#[]⟩, .slice none 0 0, .slice none 0 0]] wa4 fun r w' => r = .returned (.tuple #[.agg #[.int .i64 0, .bool false, .int .i64 0, .string ⟨#[]⟩, .slice none 0 0, .slice none 0 0], .int .i64 131]) ∧ Below wa4.heap.size wa4 w' := eval_and (inL 1) (okL false) gg wa4 (lt_of_row r4) (at10_row r4 (cs_3 _)) (at10_row r4 cs_30)
  clear r4 hgg hb4 Rwa3 Gwa3
  go_wp2_with fail
  refine ke.mono ?_
  rintro r wa5 ⟨rfl, hb5⟩
  have Hwa5 := mkHid (Hwa4.out.trans (hb5.mono Hwa4.out.size))
  obtain ⟨wa6, hw6⟩ : ∃ u, wa5.alloc (.cells #[.int .i64 0, .bool false, .int .i64 0, .string ⟨#[]⟩, .slice none 0 0, .slice none 0 0] 25) = u := ⟨_, rfl⟩
  have Gwa6 := mkHid hw6
  obtain ⟨r6, hb6⟩ := alloc1 hw6
  have Hwa6 := mkHid (Hwa5.out.trans (hb6.mono Hwa5.out.size))
  obtain ⟨za, hza⟩ : ∃ z, wa5.heap.size = z := ⟨_, rfl⟩
  have Eza := mkHid hza
  rw [hza] at r6
  clear ke hb5 hw6 hza
  have Jwa6 := mkHid (And.intro (Hwa6.out) (r6))
  clear r6 hb6 Hwa1 Hwa2 Hwa3 Hwa4 Hwa5 Hwa6
  have Hwa6 := Jwa6
  clear Jwa6
  go_wp2_with fail
  rw [Gwa6.out, Eza.out]
  refine (lit_3 _).mono ?_
  rintro r wo1 ⟨rfl, hb1⟩
  have Hwo1 := mkHid (And.intro (Hwa6.out.1.trans (hb1.mono Hwa6.out.1.size)) (Below.row hb1 Hwa6.out.2))
  clear hb1
  go_wp2_with fail
  refine (lit_0 _).mono ?_
  rintro r wo2 ⟨rfl, hb2⟩
  have Hwo2 := mkHid (And.intro (Hwo1.out.1.trans (hb2.mono Hwo1.out.1.size)) (Below.row hb2 Hwo1.out.2))
  clear hb2
  obtain ⟨wo3, hw3⟩ : ∃ u, wo2.alloc (.cells #[.int .i64 1, .string ⟨#[]⟩, .int .i64 2, .bool false, .int .i64 1, .string ⟨#[]⟩, .slice none 0 0, .slice none 0 0, .slice none 0 0, .slice none 0 0, .int .i64 1, .string ⟨#[]⟩, .int .i64 1, .bool false, .int .i64 0, .string ⟨#[]⟩, .slice none 0 0, .slice none 0 0, .slice none 0 0, .slice none 0 0] 28) = u := ⟨_, rfl⟩
  have Gwo3 := mkHid hw3
  obtain ⟨r3, hb3⟩ := alloc1 hw3
  have Hwo3 := mkHid (And.intro (Hwo2.out.1.trans (hb3.mono Hwo2.out.1.size)) (Below.row hb3 Hwo2.out.2))
  have Rwo3 := mkHid r3
  clear hw3 hb3 r3
  go_wp2_with (first | rw [Gwo3.out] | fail)
  refine (V.vnone _).mono ?_
  rintro r wo4 ⟨rfl, hb4⟩
  have Hwo4 := mkHid (And.intro (Hwo3.out.1.trans (hb4.mono Hwo3.out.1.size)) (Below.row hb4 Hwo3.out.2))
  have r4 := Below.row hb4 Rwo3.out
  obtain ⟨gg, hgg⟩ : ∃ g, wo2.heap.size = g := ⟨_, rfl⟩
  rw [hgg] at r4 ⊢
  have ke : Calls Tryz.prog 9 #[.agg #[.int .i64 6, .string ⟨#[79, 82]⟩, .int .i64 0, .bool false, .int .i64 0, .string ⟨#[]⟩, .slice none 0 0, .slice none 0 0, .slice (some ⟨gg, 0, none⟩) 2 2, .slice none 0 0], .agg #[.int .i64 0, .bool false, .int .i64 0, .string ⟨#[]⟩, .slice none 0 0, .slice none 0 0]] wo4 fun r w' => r = .returned (.tuple #[.agg #[.int .i64 0, .bool false, .int .i64 0, .string ⟨#[]⟩, .slice none 0 0, .slice none 0 0], .int .i64 131]) ∧ Below wo4.heap.size wo4 w' := eval_or (inL 1) (okL false) gg wo4 (lt_of_row r4) (at10_row r4 (cs_3 _)) (at10_row r4 cs_30)
  clear r4 hgg hb4 Rwo3 Gwo3
  go_wp2_with fail
  refine ke.mono ?_
  rintro r wo5 ⟨rfl, hb5⟩
  have Hwo5 := mkHid (And.intro (Hwo4.out.1.trans (hb5.mono Hwo4.out.1.size)) (Below.row hb5 Hwo4.out.2))
  obtain ⟨wo6, hw6⟩ : ∃ u, wo5.alloc (.cells #[.int .i64 0, .bool false, .int .i64 0, .string ⟨#[]⟩, .slice none 0 0, .slice none 0 0] 25) = u := ⟨_, rfl⟩
  have Gwo6 := mkHid hw6
  obtain ⟨r6, hb6⟩ := alloc1 hw6
  have Hwo6 := mkHid (And.intro (Hwo5.out.1.trans (hb6.mono Hwo5.out.1.size)) (Below.row hb6 Hwo5.out.2))
  obtain ⟨zo, hzo⟩ : ∃ z, wo5.heap.size = z := ⟨_, rfl⟩
  have Ezo := mkHid hzo
  rw [hzo] at r6
  clear ke hb5 hw6 hzo
  have Jwo6 := mkHid (And.intro (Hwo6.out.1) (And.intro (Hwo6.out.2) (r6)))
  clear r6 hb6 Hwo1 Hwo2 Hwo3 Hwo4 Hwo5 Hwo6
  have Hwo6 := Jwo6
  clear Jwo6
  go_wp2_with fail
  rw [Gwo6.out, Ezo.out]
  refine (lit_3 _).mono ?_
  rintro r wn1 ⟨rfl, hb1⟩
  have Hwn1 := mkHid (And.intro (Hwo6.out.1.trans (hb1.mono Hwo6.out.1.size)) (And.intro (Below.row hb1 Hwo6.out.2.1) (Below.row hb1 Hwo6.out.2.2)))
  clear hb1
  obtain ⟨wn3, hw3⟩ : ∃ u, wn1.alloc (.cells #[.int .i64 1, .string ⟨#[]⟩, .int .i64 2, .bool false, .int .i64 1, .string ⟨#[]⟩, .slice none 0 0, .slice none 0 0, .slice none 0 0, .slice none 0 0] 28) = u := ⟨_, rfl⟩
  have Gwn3 := mkHid hw3
  obtain ⟨r3, hb3⟩ := alloc1 hw3
  have Hwn3 := mkHid (And.intro (Hwn1.out.1.trans (hb3.mono Hwn1.out.1.size)) (And.intro (Below.row hb3 Hwn1.out.2.1) (Below.row hb3 Hwn1.out.2.2)))
  have Rwn3 := mkHid r3
  clear hw3 hb3 r3
  go_wp2_with (first | rw [Gwn3.out] | fail)
  refine (V.vnone _).mono ?_
  rintro r wn4 ⟨rfl, hb4⟩
  have Hwn4 := mkHid (And.intro (Hwn3.out.1.trans (hb4.mono Hwn3.out.1.size)) (And.intro (Below.row hb4 Hwn3.out.2.1) (Below.row hb4 Hwn3.out.2.2)))
  have r4 := Below.row hb4 Rwn3.out
  obtain ⟨gg, hgg⟩ : ∃ g, wn1.heap.size = g := ⟨_, rfl⟩
  rw [hgg] at r4 ⊢
  have ke : Calls Tryz.prog 9 #[.agg #[.int .i64 4, .string ⟨#[]⟩, .int .i64 0, .bool false, .int .i64 0, .string ⟨#[]⟩, .slice none 0 0, .slice none 0 0, .slice (some ⟨gg, 0, none⟩) 1 1, .slice none 0 0], .agg #[.int .i64 0, .bool false, .int .i64 0, .string ⟨#[]⟩, .slice none 0 0, .slice none 0 0]] wn4 fun r w' => r = .returned (.tuple #[.agg #[.int .i64 0, .bool false, .int .i64 0, .string ⟨#[]⟩, .slice none 0 0, .slice none 0 0], .int .i64 131]) ∧ Below wn4.heap.size wn4 w' := eval_not (inL 1) ⟨rfl, rfl, rfl, rfl⟩ gg wn4 (lt_of_row r4) (at10_row r4 (cs_3 _))
  clear r4 hgg hb4 Rwn3 Gwn3
  go_wp2_with fail
  refine ke.mono ?_
  rintro r wn5 ⟨rfl, hb5⟩
  have Hwn5 := mkHid (And.intro (Hwn4.out.1.trans (hb5.mono Hwn4.out.1.size)) (And.intro (Below.row hb5 Hwn4.out.2.1) (Below.row hb5 Hwn4.out.2.2)))
  obtain ⟨wn6, hw6⟩ : ∃ u, wn5.alloc (.cells #[.int .i64 0, .bool false, .int .i64 0, .string ⟨#[]⟩, .slice none 0 0, .slice none 0 0] 25) = u := ⟨_, rfl⟩
  have Gwn6 := mkHid hw6
  obtain ⟨r6, hb6⟩ := alloc1 hw6
  have Hwn6 := mkHid (And.intro (Hwn5.out.1.trans (hb6.mono Hwn5.out.1.size)) (And.intro (Below.row hb6 Hwn5.out.2.1) (Below.row hb6 Hwn5.out.2.2)))
  obtain ⟨zn, hzn⟩ : ∃ z, wn5.heap.size = z := ⟨_, rfl⟩
  have Ezn := mkHid hzn
  rw [hzn] at r6
  clear ke hb5 hw6 hzn
  have Jwn6 := mkHid (And.intro (Hwn6.out.1) (And.intro (Hwn6.out.2.1) (And.intro (Hwn6.out.2.2) (r6))))
  clear r6 hb6 Hwn1 Hwn3 Hwn4 Hwn5 Hwn6
  have Hwn6 := Jwn6
  clear Jwn6
  have kaw := awake_any wn6 (HEG.out.1.later Hwn6.out.1) (HEG.out.2.later Hwn6.out.1)
  go_wp2_with fail
  rw [Gwn6.out, Ezn.out]
  refine kaw.mono ?_
  rintro r wz ⟨rfl, hbz⟩
  have HZ : Hid (Below w.heap.size w wz) := Hwn6.out.1.trans (hbz.mono Hwn6.out.1.size)
  have cza : wz.cell? ⟨za, 1, none⟩ = some (.bool false) := cell_of_row wz _ 1 _ _ _ (Below.row hbz Hwn6.out.2.1)
  have czo : wz.cell? ⟨zo, 1, none⟩ = some (.bool false) := cell_of_row wz _ 1 _ _ _ (Below.row hbz Hwn6.out.2.2.1)
  have czn : wz.cell? ⟨zn, 1, none⟩ = some (.bool false) := cell_of_row wz _ 1 _ _ _ (Below.row hbz Hwn6.out.2.2.2)
  clear hbz kaw Hwn6 Gwn6 Ezn Gwo6 Ezo Gwa6 Eza HEG
  go_wp2
  go_ret
  exact ⟨rfl, HZ.out⟩
set_option maxRecDepth 100000 in
set_option maxHeartbeats 8000000 in
theorem truths_31 (a b : Int) (ha : bits .and .i64 a 3 = 3) (hb : bits .and .i64 b 3 = 1) (w : World) (he : Ev w) (hg : Gm w) : Calls Tryz.prog 5 #[.int .i64 a, .int .i64 b] w fun e w' => e = .returned (.bool true) ∧ Below w.heap.size w w' := by
  have HEG : Hid (Ev w ∧ Gm w) := ⟨he, hg⟩
  have Hw : Hid (Below w.heap.size w w) := Below.refl _ _
  clear he hg
  go_enter Tryz.func5, Tryz.ntmps5
  go_wp2_with fail
  refine (lit_3 _).mono ?_
  rintro r wa1 ⟨rfl, hb1⟩
  have Hwa1 := mkHid (Hw.out.trans (hb1.mono Hw.out.size))
  clear hb1
  go_wp2_with fail
  refine (lit_1 _).mono ?_
  rintro r wa2 ⟨rfl, hb2⟩
  have Hwa2 := mkHid (Hwa1.out.trans (hb2.mono Hwa1.out.size))
  clear hb2
  obtain ⟨wa3, hw3⟩ : ∃ u, wa2.alloc (.cells #[.int .i64 1, .string ⟨#[]⟩, .int .i64 2, .bool false, .int .i64 1, .string ⟨#[]⟩, .slice none 0 0, .slice none 0 0, .slice none 0 0, .slice none 0 0, .int .i64 1, .string ⟨#[]⟩, .int .i64 1, .bool true, .int .i64 0, .string ⟨#[]⟩, .slice none 0 0, .slice none 0 0, .slice none 0 0, .slice none 0 0] 28) = u := ⟨_, rfl⟩
  have Gwa3 := mkHid hw3
  obtain ⟨r3, hb3⟩ := alloc1 hw3
  have Hwa3 := mkHid (Hwa2.out.trans (hb3.mono Hwa2.out.size))
  have Rwa3 := mkHid r3
  clear hw3 hb3 r3
  go_wp2_with (first | rw [Gwa3.out] | fail)
  refine (V.vnone _).mono ?_
  rintro r wa4 ⟨rfl, hb4⟩
  have Hwa4 := mkHid (Hwa3.out.trans (hb4.mono Hwa3.out.size))
  have r4 := Below.row hb4 Rwa3.out
  obtain ⟨gg, hgg⟩ : ∃ g, wa2.heap.size = g := ⟨_, rfl⟩
  rw [hgg] at r4 ⊢
  have ke : Calls Tryz.prog 9 #[.agg #[.int .i64 6, .string ⟨#[65, 78, 68]⟩, .int .i64 0, .bool false, .int .i64 0, .string ⟨#[]⟩, .slice none 0 0, .slice none 0 0, .slice (some ⟨gg, 0, none⟩) 2 2, .slice none 0 0], .agg #[.int .i64 0, .bool false, .int .i64 0, .string ⟨#[]⟩, .slice none 0 0, .slice none 0 0]] wa4 fun r w' => r = .returned (.tuple #[.agg #[.int .i64 0, .bool false, .int .i64 0, .string ⟨#[]⟩, .slice none 0 0, .slice none 0 0], .int .i64 131]) ∧ Below wa4.heap.size wa4 w' := eval_and (inL 1) (okL true) gg wa4 (lt_of_row r4) (at10_row r4 (cs_3 _)) (at10_row r4 cs_31)
  clear r4 hgg hb4 Rwa3 Gwa3
  go_wp2_with fail
  refine ke.mono ?_
  rintro r wa5 ⟨rfl, hb5⟩
  have Hwa5 := mkHid (Hwa4.out.trans (hb5.mono Hwa4.out.size))
  obtain ⟨wa6, hw6⟩ : ∃ u, wa5.alloc (.cells #[.int .i64 0, .bool false, .int .i64 0, .string ⟨#[]⟩, .slice none 0 0, .slice none 0 0] 25) = u := ⟨_, rfl⟩
  have Gwa6 := mkHid hw6
  obtain ⟨r6, hb6⟩ := alloc1 hw6
  have Hwa6 := mkHid (Hwa5.out.trans (hb6.mono Hwa5.out.size))
  obtain ⟨za, hza⟩ : ∃ z, wa5.heap.size = z := ⟨_, rfl⟩
  have Eza := mkHid hza
  rw [hza] at r6
  clear ke hb5 hw6 hza
  have Jwa6 := mkHid (And.intro (Hwa6.out) (r6))
  clear r6 hb6 Hwa1 Hwa2 Hwa3 Hwa4 Hwa5 Hwa6
  have Hwa6 := Jwa6
  clear Jwa6
  go_wp2_with fail
  rw [Gwa6.out, Eza.out]
  refine (lit_3 _).mono ?_
  rintro r wo1 ⟨rfl, hb1⟩
  have Hwo1 := mkHid (And.intro (Hwa6.out.1.trans (hb1.mono Hwa6.out.1.size)) (Below.row hb1 Hwa6.out.2))
  clear hb1
  go_wp2_with fail
  refine (lit_1 _).mono ?_
  rintro r wo2 ⟨rfl, hb2⟩
  have Hwo2 := mkHid (And.intro (Hwo1.out.1.trans (hb2.mono Hwo1.out.1.size)) (Below.row hb2 Hwo1.out.2))
  clear hb2
  obtain ⟨wo3, hw3⟩ : ∃ u, wo2.alloc (.cells #[.int .i64 1, .string ⟨#[]⟩, .int .i64 2, .bool false, .int .i64 1, .string ⟨#[]⟩, .slice none 0 0, .slice none 0 0, .slice none 0 0, .slice none 0 0, .int .i64 1, .string ⟨#[]⟩, .int .i64 1, .bool true, .int .i64 0, .string ⟨#[]⟩, .slice none 0 0, .slice none 0 0, .slice none 0 0, .slice none 0 0] 28) = u := ⟨_, rfl⟩
  have Gwo3 := mkHid hw3
  obtain ⟨r3, hb3⟩ := alloc1 hw3
  have Hwo3 := mkHid (And.intro (Hwo2.out.1.trans (hb3.mono Hwo2.out.1.size)) (Below.row hb3 Hwo2.out.2))
  have Rwo3 := mkHid r3
  clear hw3 hb3 r3
  go_wp2_with (first | rw [Gwo3.out] | fail)
  refine (V.vnone _).mono ?_
  rintro r wo4 ⟨rfl, hb4⟩
  have Hwo4 := mkHid (And.intro (Hwo3.out.1.trans (hb4.mono Hwo3.out.1.size)) (Below.row hb4 Hwo3.out.2))
  have r4 := Below.row hb4 Rwo3.out
  obtain ⟨gg, hgg⟩ : ∃ g, wo2.heap.size = g := ⟨_, rfl⟩
  rw [hgg] at r4 ⊢
  have ke : Calls Tryz.prog 9 #[.agg #[.int .i64 6, .string ⟨#[79, 82]⟩, .int .i64 0, .bool false, .int .i64 0, .string ⟨#[]⟩, .slice none 0 0, .slice none 0 0, .slice (some ⟨gg, 0, none⟩) 2 2, .slice none 0 0], .agg #[.int .i64 0, .bool false, .int .i64 0, .string ⟨#[]⟩, .slice none 0 0, .slice none 0 0]] wo4 fun r w' => r = .returned (.tuple #[.agg #[.int .i64 0, .bool false, .int .i64 0, .string ⟨#[]⟩, .slice none 0 0, .slice none 0 0], .int .i64 131]) ∧ Below wo4.heap.size wo4 w' := eval_or (inL 1) (okL true) gg wo4 (lt_of_row r4) (at10_row r4 (cs_3 _)) (at10_row r4 cs_31)
  clear r4 hgg hb4 Rwo3 Gwo3
  go_wp2_with fail
  refine ke.mono ?_
  rintro r wo5 ⟨rfl, hb5⟩
  have Hwo5 := mkHid (And.intro (Hwo4.out.1.trans (hb5.mono Hwo4.out.1.size)) (Below.row hb5 Hwo4.out.2))
  obtain ⟨wo6, hw6⟩ : ∃ u, wo5.alloc (.cells #[.int .i64 0, .bool false, .int .i64 0, .string ⟨#[]⟩, .slice none 0 0, .slice none 0 0] 25) = u := ⟨_, rfl⟩
  have Gwo6 := mkHid hw6
  obtain ⟨r6, hb6⟩ := alloc1 hw6
  have Hwo6 := mkHid (And.intro (Hwo5.out.1.trans (hb6.mono Hwo5.out.1.size)) (Below.row hb6 Hwo5.out.2))
  obtain ⟨zo, hzo⟩ : ∃ z, wo5.heap.size = z := ⟨_, rfl⟩
  have Ezo := mkHid hzo
  rw [hzo] at r6
  clear ke hb5 hw6 hzo
  have Jwo6 := mkHid (And.intro (Hwo6.out.1) (And.intro (Hwo6.out.2) (r6)))
  clear r6 hb6 Hwo1 Hwo2 Hwo3 Hwo4 Hwo5 Hwo6
  have Hwo6 := Jwo6
  clear Jwo6
  go_wp2_with fail
  rw [Gwo6.out, Ezo.out]
  refine (lit_3 _).mono ?_
  rintro r wn1 ⟨rfl, hb1⟩
  have Hwn1 := mkHid (And.intro (Hwo6.out.1.trans (hb1.mono Hwo6.out.1.size)) (And.intro (Below.row hb1 Hwo6.out.2.1) (Below.row hb1 Hwo6.out.2.2)))
  clear hb1
  obtain ⟨wn3, hw3⟩ : ∃ u, wn1.alloc (.cells #[.int .i64 1, .string ⟨#[]⟩, .int .i64 2, .bool false, .int .i64 1, .string ⟨#[]⟩, .slice none 0 0, .slice none 0 0, .slice none 0 0, .slice none 0 0] 28) = u := ⟨_, rfl⟩
  have Gwn3 := mkHid hw3
  obtain ⟨r3, hb3⟩ := alloc1 hw3
  have Hwn3 := mkHid (And.intro (Hwn1.out.1.trans (hb3.mono Hwn1.out.1.size)) (And.intro (Below.row hb3 Hwn1.out.2.1) (Below.row hb3 Hwn1.out.2.2)))
  have Rwn3 := mkHid r3
  clear hw3 hb3 r3
  go_wp2_with (first | rw [Gwn3.out] | fail)
  refine (V.vnone _).mono ?_
  rintro r wn4 ⟨rfl, hb4⟩
  have Hwn4 := mkHid (And.intro (Hwn3.out.1.trans (hb4.mono Hwn3.out.1.size)) (And.intro (Below.row hb4 Hwn3.out.2.1) (Below.row hb4 Hwn3.out.2.2)))
  have r4 := Below.row hb4 Rwn3.out
  obtain ⟨gg, hgg⟩ : ∃ g, wn1.heap.size = g := ⟨_, rfl⟩
  rw [hgg] at r4 ⊢
  have ke : Calls Tryz.prog 9 #[.agg #[.int .i64 4, .string ⟨#[]⟩, .int .i64 0, .bool false, .int .i64 0, .string ⟨#[]⟩, .slice none 0 0, .slice none 0 0, .slice (some ⟨gg, 0, none⟩) 1 1, .slice none 0 0], .agg #[.int .i64 0, .bool false, .int .i64 0, .string ⟨#[]⟩, .slice none 0 0, .slice none 0 0]] wn4 fun r w' => r = .returned (.tuple #[.agg #[.int .i64 0, .bool false, .int .i64 0, .string ⟨#[]⟩, .slice none 0 0, .slice none 0 0], .int .i64 131]) ∧ Below wn4.heap.size wn4 w' := eval_not (inL 1) ⟨rfl, rfl, rfl, rfl⟩ gg wn4 (lt_of_row r4) (at10_row r4 (cs_3 _))
  clear r4 hgg hb4 Rwn3 Gwn3
  go_wp2_with fail
  refine ke.mono ?_
  rintro r wn5 ⟨rfl, hb5⟩
  have Hwn5 := mkHid (And.intro (Hwn4.out.1.trans (hb5.mono Hwn4.out.1.size)) (And.intro (Below.row hb5 Hwn4.out.2.1) (Below.row hb5 Hwn4.out.2.2)))
  obtain ⟨wn6, hw6⟩ : ∃ u, wn5.alloc (.cells #[.int .i64 0, .bool false, .int .i64 0, .string ⟨#[]⟩, .slice none 0 0, .slice none 0 0] 25) = u := ⟨_, rfl⟩
  have Gwn6 := mkHid hw6
  obtain ⟨r6, hb6⟩ := alloc1 hw6
  have Hwn6 := mkHid (And.intro (Hwn5.out.1.trans (hb6.mono Hwn5.out.1.size)) (And.intro (Below.row hb6 Hwn5.out.2.1) (Below.row hb6 Hwn5.out.2.2)))
  obtain ⟨zn, hzn⟩ : ∃ z, wn5.heap.size = z := ⟨_, rfl⟩
  have Ezn := mkHid hzn
  rw [hzn] at r6
  clear ke hb5 hw6 hzn
  have Jwn6 := mkHid (And.intro (Hwn6.out.1) (And.intro (Hwn6.out.2.1) (And.intro (Hwn6.out.2.2) (r6))))
  clear r6 hb6 Hwn1 Hwn3 Hwn4 Hwn5 Hwn6
  have Hwn6 := Jwn6
  clear Jwn6
  have kaw := awake_any wn6 (HEG.out.1.later Hwn6.out.1) (HEG.out.2.later Hwn6.out.1)
  go_wp2_with fail
  rw [Gwn6.out, Ezn.out]
  refine kaw.mono ?_
  rintro r wz ⟨rfl, hbz⟩
  have HZ : Hid (Below w.heap.size w wz) := Hwn6.out.1.trans (hbz.mono Hwn6.out.1.size)
  have cza : wz.cell? ⟨za, 1, none⟩ = some (.bool false) := cell_of_row wz _ 1 _ _ _ (Below.row hbz Hwn6.out.2.1)
  have czo : wz.cell? ⟨zo, 1, none⟩ = some (.bool false) := cell_of_row wz _ 1 _ _ _ (Below.row hbz Hwn6.out.2.2.1)
  have czn : wz.cell? ⟨zn, 1, none⟩ = some (.bool false) := cell_of_row wz _ 1 _ _ _ (Below.row hbz Hwn6.out.2.2.2)
  clear hbz kaw Hwn6 Gwn6 Ezn Gwo6 Ezo Gwa6 Eza HEG
  go_wp2
  go_ret
  exact ⟨rfl, HZ.out⟩
set_option maxRecDepth 100000 in
set_option maxHeartbeats 8000000 in
theorem truths_32 (a b : Int) (ha : bits .and .i64 a 3 = 3) (hb : bits .and .i64 b 3 = 2) (w : World) (he : Ev w) (hg : Gm w) : Calls Tryz.prog 5 #[.int .i64 a, .int .i64 b] w fun e w' => e = .returned (.bool true) ∧ Below w.heap.size w w' := by
  have HEG : Hid (Ev w ∧ Gm w) := ⟨he, hg⟩
  have Hw : Hid (Below w.heap.size w w) := Below.refl _ _
  clear he hg
  go_enter Tryz.func5, Tryz.ntmps5
  go_wp2_with fail
  refine (lit_3 _).mono ?_
  rintro r wa1 ⟨rfl, hb1⟩
  have Hwa1 := mkHid (Hw.out.trans (hb1.mono Hw.out.size))
  clear hb1
  go_wp2_with fail
  refine (lit_2 _).mono ?_
  rintro r wa2 ⟨rfl, hb2⟩
  have Hwa2 := mkHid (Hwa1.out.trans (hb2.mono Hwa1.out.size))
  clear hb2
  obtain ⟨wa3, hw3⟩ : ∃ u, wa2.alloc (.cells #[.int .i64 1, .string ⟨#[]⟩, .int .i64 2, .bool false, .int .i64 1, .string ⟨#[]⟩, .slice none 0 0, .slice none 0 0, .slice none 0 0, .slice none 0 0, .int .i64 1, .string ⟨#[]⟩, .int .i64 0, .bool false, .int .i64 0, .string ⟨#[]⟩, .slice none 0 0, .slice none 0 0, .slice none 0 0, .slice none 0 0] 28) = u := ⟨_, rfl⟩
  have Gwa3 := mkHid hw3
  obtain ⟨r3, hb3⟩ := alloc1 hw3
  have Hwa3 := mkHid (Hwa2.out.trans (hb3.mono Hwa2.out.size))
  have Rwa3 := mkHid r3
  clear hw3 hb3 r3
  go_wp2_with (first | rw [Gwa3.out] | fail)
  refine (V.vnone _).mono ?_
  rintro r wa4 ⟨rfl, hb4⟩
  have Hwa4 := mkHid (Hwa3.out.trans (hb4.mono Hwa3.out.size))
  have r4 := Below.row hb4 Rwa3.out
  obtain ⟨gg, hgg⟩ : ∃ g, wa2.heap.size = g := ⟨_, rfl⟩
  rw [hgg] at r4 ⊢
  have ke : Calls Tryz.prog 9 #[.agg #[.int .i64 6, .string ⟨#[65, 78, 68]⟩, .int .i64 0, .bool false, .int .i64 0, .string ⟨#[]⟩, .slice none 0 0, .slice none 0 0, .slice (some ⟨gg, 0, none⟩) 2 2, .slice none 0 0], .agg #[.int .i64 0, .bool false, .int .i64 0, .string ⟨#[]⟩, .slice none 0 0, .slice none 0 0]] wa4 fun r w' => r = .returned (.tuple #[.agg #[.int .i64 0, .bool false, .int .i64 0, .string ⟨#[]⟩, .slice none 0 0, .slice none 0 0], .int .i64 131]) ∧ Below wa4.heap.size wa4 w' := eval_and (inL 1) (noL) gg wa4 (lt_of_row r4) (at10_row r4 (cs_3 _)) (at10_row r4 cs_32)
  clear r4 hgg hb4 Rwa3 Gwa3
  go_wp2_with fail
  refine ke.mono ?_
  rintro r wa5 ⟨rfl, hb5⟩
  have Hwa5 := mkHid (Hwa4.out.trans (hb5.mono Hwa4.out.size))
  obtain ⟨wa6, hw6⟩ : ∃ u, wa5.alloc (.cells #[.int .i64 0, .bool false, .int .i64 0, .string ⟨#[]⟩, .slice none 0 0, .slice none 0 0] 25) = u := ⟨_, rfl⟩
  have Gwa6 := mkHid hw6
  obtain ⟨r6, hb6⟩ := alloc1 hw6
  have Hwa6 := mkHid (Hwa5.out.trans (hb6.mono Hwa5.out.size))
  obtain ⟨za, hza⟩ : ∃ z, wa5.heap.size = z := ⟨_, rfl⟩
  have Eza := mkHid hza
  rw [hza] at r6
  clear ke hb5 hw6 hza
  have Jwa6 := mkHid (And.intro (Hwa6.out) (r6))
  clear r6 hb6 Hwa1 Hwa2 Hwa3 Hwa4 Hwa5 Hwa6
  have Hwa6 := Jwa6
  clear Jwa6
  go_wp2_with fail
  rw [Gwa6.out, Eza.out]
  refine (lit_3 _).mono ?_
  rintro r wo1 ⟨rfl, hb1⟩
  have Hwo1 := mkHid (And.intro (Hwa6.out.1.trans (hb1.mono Hwa6.out.1.size)) (Below.row hb1 Hwa6.out.2))
  clear hb1
  go_wp2_with fail
  refine (lit_2 _).mono ?_
  rintro r wo2 ⟨rfl, hb2⟩
  have Hwo2 := mkHid (And.intro (Hwo1.out.1.trans (hb2.mono Hwo1.out.1.size)) (Below.row hb2 Hwo1.out.2))
  clear hb2
  obtain ⟨wo3, hw3⟩ : ∃ u, wo2.alloc (.cells #[.int .i64 1, .string ⟨#[]⟩, .int .i64 2, .bool false, .int .i64 1, .string ⟨#[]⟩, .slice none 0 0, .slice none 0 0, .slice none 0 0, .slice none 0 0, .int .i64 1, .string ⟨#[]⟩, .int .i64 0, .bool false, .int .i64 0, .string ⟨#[]⟩, .slice none 0 0, .slice none 0 0, .slice none 0 0, .slice none 0 0] 28) = u := ⟨_, rfl⟩
  have Gwo3 := mkHid hw3
  obtain ⟨r3, hb3⟩ := alloc1 hw3
  have Hwo3 := mkHid (And.intro (Hwo2.out.1.trans (hb3.mono Hwo2.out.1.size)) (Below.row hb3 Hwo2.out.2))
  have Rwo3 := mkHid r3
  clear hw3 hb3 r3
  go_wp2_with (first | rw [Gwo3.out] | fail)
  refine (V.vnone _).mono ?_
  rintro r wo4 ⟨rfl, hb4⟩
  have Hwo4 := mkHid (And.intro (Hwo3.out.1.trans (hb4.mono Hwo3.out.1.size)) (Below.row hb4 Hwo3.out.2))
  have r4 := Below.row hb4 Rwo3.out
  obtain ⟨gg, hgg⟩ : ∃ g, wo2.heap.size = g := ⟨_, rfl⟩
  rw [hgg] at r4 ⊢
  have ke : Calls Tryz.prog 9 #[.agg #[.int .i64 6, .string ⟨#[79, 82]⟩, .int .i64 0, .bool false, .int .i64 0, .string ⟨#[]⟩, .slice none 0 0, .slice none 0 0, .slice (some ⟨gg, 0, none⟩) 2 2, .slice none 0 0], .agg #[.int .i64 0, .bool false, .int .i64 0, .string ⟨#[]⟩, .slice none 0 0, .slice none 0 0]] wo4 fun r w' => r = .returned (.tuple #[.agg #[.int .i64 0, .bool false, .int .i64 0, .string ⟨#[]⟩, .slice none 0 0, .slice none 0 0], .int .i64 131]) ∧ Below wo4.heap.size wo4 w' := eval_or (inL 1) (noL) gg wo4 (lt_of_row r4) (at10_row r4 (cs_3 _)) (at10_row r4 cs_32)
  clear r4 hgg hb4 Rwo3 Gwo3
  go_wp2_with fail
  refine ke.mono ?_
  rintro r wo5 ⟨rfl, hb5⟩
  have Hwo5 := mkHid (And.intro (Hwo4.out.1.trans (hb5.mono Hwo4.out.1.size)) (Below.row hb5 Hwo4.out.2))
  obtain ⟨wo6, hw6⟩ : ∃ u, wo5.alloc (.cells #[.int .i64 0, .bool false, .int .i64 0, .string ⟨#[]⟩, .slice none 0 0, .slice none 0 0] 25) = u := ⟨_, rfl⟩
  have Gwo6 := mkHid hw6
  obtain ⟨r6, hb6⟩ := alloc1 hw6
  have Hwo6 := mkHid (And.intro (Hwo5.out.1.trans (hb6.mono Hwo5.out.1.size)) (Below.row hb6 Hwo5.out.2))
  obtain ⟨zo, hzo⟩ : ∃ z, wo5.heap.size = z := ⟨_, rfl⟩
  have Ezo := mkHid hzo
  rw [hzo] at r6
  clear ke hb5 hw6 hzo
  have Jwo6 := mkHid (And.intro (Hwo6.out.1) (And.intro (Hwo6.out.2) (r6)))
  clear r6 hb6 Hwo1 Hwo2 Hwo3 Hwo4 Hwo5 Hwo6
  have Hwo6 := Jwo6
  clear Jwo6
  go_wp2_with fail
  rw [Gwo6.out, Ezo.out]
  refine (lit_3 _).mono ?_
  rintro r wn1 ⟨rfl, hb1⟩
  have Hwn1 := mkHid (And.intro (Hwo6.out.1.trans (hb1.mono Hwo6.out.1.size)) (And.intro (Below.row hb1 Hwo6.out.2.1) (Below.row hb1 Hwo6.out.2.2)))
  clear hb1
  obtain ⟨wn3, hw3⟩ : ∃ u, wn1.alloc (.cells #[.int .i64 1, .string ⟨#[]⟩, .int .i64 2, .bool false, .int .i64 1, .string ⟨#[]⟩, .slice none 0 0, .slice none 0 0, .slice none 0 0, .slice none 0 0] 28) = u := ⟨_, rfl⟩
  have Gwn3 := mkHid hw3
  obtain ⟨r3, hb3⟩ := alloc1 hw3
  have Hwn3 := mkHid (And.intro (Hwn1.out.1.trans (hb3.mono Hwn1.out.1.size)) (And.intro (Below.row hb3 Hwn1.out.2.1) (Below.row hb3 Hwn1.out.2.2)))
  have Rwn3 := mkHid r3
  clear hw3 hb3 r3
  go_wp2_with (first | rw [Gwn3.out] | fail)
  refine (V.vnone _).mono ?_
  rintro r wn4 ⟨rfl, hb4⟩
  have Hwn4 := mkHid (And.intro (Hwn3.out.1.trans (hb4.mono Hwn3.out.1.size)) (And.intro (Below.row hb4 Hwn3.out.2.1) (Below.row hb4 Hwn3.out.2.2)))
  have r4 := Below.row hb4 Rwn3.out
  obtain ⟨gg, hgg⟩ : ∃ g, wn1.heap.size = g := ⟨_, rfl⟩
  rw [hgg] at r4 ⊢
  have ke : Calls Tryz.prog 9 #[.agg #[.int .i64 4, .string ⟨#[]⟩, .int .i64 0, .bool false, .int .i64 0, .string ⟨#[]⟩, .slice none 0 0, .slice none 0 0, .slice (some ⟨gg, 0, none⟩) 1 1, .slice none 0 0], .agg #[.int .i64 0, .bool false, .int .i64 0, .string ⟨#[]⟩, .slice none 0 0, .slice none 0 0]] wn4 fun r w' => r = .returned (.tuple #[.agg #[.int .i64 0, .bool false, .int .i64 0, .string ⟨#[]⟩, .slice none 0 0, .slice none 0 0], .int .i64 131]) ∧ Below wn4.heap.size wn4 w' := eval_not (inL 1) ⟨rfl, rfl, rfl, rfl⟩ gg wn4 (lt_of_row r4) (at10_row r4 (cs_3 _))
  clear r4 hgg hb4 Rwn3 Gwn3
  go_wp2_with fail
  refine ke.mono ?_
  rintro r wn5 ⟨rfl, hb5⟩
  have Hwn5 := mkHid (And.intro (Hwn4.out.1.trans (hb5.mono Hwn4.out.1.size)) (And.intro (Below.row hb5 Hwn4.out.2.1) (Below.row hb5 Hwn4.out.2.2)))
  obtain ⟨wn6, hw6⟩ : ∃ u, wn5.alloc (.cells #[.int .i64 0, .bool false, .int .i64 0, .string ⟨#[]⟩, .slice none 0 0, .slice none 0 0] 25) = u := ⟨_, rfl⟩
  have Gwn6 := mkHid hw6
  obtain ⟨r6, hb6⟩ := alloc1 hw6
  have Hwn6 := mkHid (And.intro (Hwn5.out.1.trans (hb6.mono Hwn5.out.1.size)) (And.intro (Below.row hb6 Hwn5.out.2.1) (Below.row hb6 Hwn5.out.2.2)))
  obtain ⟨zn, hzn⟩ : ∃ z, wn5.heap.size = z := ⟨_, rfl⟩
  have Ezn := mkHid hzn
  rw [hzn] at r6
  clear ke hb5 hw6 hzn
  have Jwn6 := mkHid (And.intro (Hwn6.out.1) (And.intro (Hwn6.out.2.1) (And.intro (Hwn6.out.2.2) (r6))))
  clear r6 hb6 Hwn1 Hwn3 Hwn4 Hwn5 Hwn6
  have Hwn6 := Jwn6
  clear Jwn6
  have kaw := awake_any wn6 (HEG.out.1.later Hwn6.out.1) (HEG.out.2.later Hwn6.out.1)
  go_wp2_with fail
  rw [Gwn6.out, Ezn.out]
  refine kaw.mono ?_
  rintro r wz ⟨rfl, hbz⟩
  have HZ : Hid (Below w.heap.size w wz) := Hwn6.out.1.trans (hbz.mono Hwn6.out.1.size)
  have cza : wz.cell? ⟨za, 1, none⟩ = some (.bool false) := cell_of_row wz _ 1 _ _ _ (Below.row hbz Hwn6.out.2.1)
  have czo : wz.cell? ⟨zo, 1, none⟩ = some (.bool false) := cell_of_row wz _ 1 _ _ _ (Below.row hbz Hwn6.out.2.2.1)
  have czn : wz.cell? ⟨zn, 1, none⟩ = some (.bool false) := cell_of_row wz _ 1 _ _ _ (Below.row hbz Hwn6.out.2.2.2)
  clear hbz kaw Hwn6 Gwn6 Ezn Gwo6 Ezo Gwa6 Eza HEG
  go_wp2
  go_ret
  exact ⟨rfl, HZ.out⟩
set_option maxRecDepth 100000 in
set_option maxHeartbeats 8000000 in
theorem truths_33 (a b : Int) (ha : bits .and .i64 a 3 = 3) (hb : bits .and .i64 b 3 = 3) (w : World) (he : Ev w) (hg : Gm w) : Calls Tryz.prog 5 #[.int .i64 a, .int .i64 b] w fun e w' => e = .returned (.bool true) ∧ Below w.heap.size w w' := by
  have HEG : Hid (Ev w ∧ Gm w) := ⟨he, hg⟩
  have Hw : Hid (Below w.heap.size w w) := Below.refl _ _
  clear he hg
  go_enter Tryz.func5, Tryz.ntmps5
  go_wp2_with fail
  refine (lit_3 _).mono ?_
  rintro r wa1 ⟨rfl, hb1⟩
  have Hwa1 := mkHid (Hw.out.trans (hb1.mono Hw.out.size))
  clear hb1
  go_wp2_with fail
  refine (lit_3 _).mono ?_
  rintro r wa2 ⟨rfl, hb2⟩
  have Hwa2 := mkHid (Hwa1.out.trans (hb2.mono Hwa1.out.size))
  clear hb2
  obtain ⟨wa3, hw3⟩ : ∃ u, wa2.alloc (.cells #[.int .i64 1, .string ⟨#[]⟩, .int .i64 2, .bool false, .int .i64 1, .string ⟨#[]⟩, .slice none 0 0, .slice none 0 0, .slice none 0 0, .slice none 0 0, .int .i64 1, .string ⟨#[]⟩, .int .i64 2, .bool false, .int .i64 1, .string ⟨#[]⟩, .slice none 0 0, .slice none 0 0, .slice none 0 0, .slice none 0 0] 28) = u := ⟨_, rfl⟩
  have Gwa3 := mkHid hw3
  obtain ⟨r3, hb3⟩ := alloc1 hw3
  have Hwa3 := mkHid (Hwa2.out.trans (hb3.mono Hwa2.out.size))
  have Rwa3 := mkHid r3
  clear hw3 hb3 r3
  go_wp2_with (first | rw [Gwa3.out] | fail)
  refine (V.vnone _).mono ?_
  rintro r wa4 ⟨rfl, hb4⟩
  have Hwa4 := mkHid (Hwa3.out.trans (hb4.mono Hwa3.out.size))
  have r4 := Below.row hb4 Rwa3.out
  obtain ⟨gg, hgg⟩ : ∃ g, wa2.heap.size = g := ⟨_, rfl⟩
  rw [hgg] at r4 ⊢
  have ke : Calls Tryz.prog 9 #[.agg #[.int .i64 6, .string ⟨#[65, 78, 68]⟩, .int .i64 0, .bool false, .int .i64 0, .string ⟨#[]⟩, .slice none 0 0, .slice none 0 0, .slice (some ⟨gg, 0, none⟩) 2 2, .slice none 0 0], .agg #[.int .i64 0, .bool false, .int .i64 0, .string ⟨#[]⟩, .slice none 0 0, .slice none 0 0]] wa4 fun r w' => r = .returned (.tuple #[.agg #[.int .i64 0, .bool false, .int .i64 0, .string ⟨#[]⟩, .slice none 0 0, .slice none 0 0], .int .i64 131]) ∧ Below wa4.heap.size wa4 w' := eval_and (inL 1) (inL 1) gg wa4 (lt_of_row r4) (at10_row r4 (cs_3 _)) (at10_row r4 cs_33)
  clear r4 hgg hb4 Rwa3 Gwa3
  go_wp2_with fail
  refine ke.mono ?_
  rintro r wa5 ⟨rfl, hb5⟩
  have Hwa5 := mkHid (Hwa4.out.trans (hb5.mono Hwa4.out.size))
  obtain ⟨wa6, hw6⟩ : ∃ u, wa5.alloc (.cells #[.int .i64 0, .bool false, .int .i64 0, .string ⟨#[]⟩, .slice none 0 0, .slice none 0 0] 25) = u := ⟨_, rfl⟩
  have Gwa6 := mkHid hw6
  obtain ⟨r6, hb6⟩ := alloc1 hw6
  have Hwa6 := mkHid (Hwa5.out.trans (hb6.mono Hwa5.out.size))
  obtain ⟨za, hza⟩ : ∃ z, wa5.heap.size = z := ⟨_, rfl⟩
  have Eza := mkHid hza
  rw [hza] at r6
  clear ke hb5 hw6 hza
  have Jwa6 := mkHid (And.intro (Hwa6.out) (r6))
  clear r6 hb6 Hwa1 Hwa2 Hwa3 Hwa4 Hwa5 Hwa6
  have Hwa6 := Jwa6
  clear Jwa6
  go_wp2_with fail
  rw [Gwa6.out, Eza.out]
  refine (lit_3 _).mono ?_
  rintro r wo1 ⟨rfl, hb1⟩
  have Hwo1 := mkHid (And.intro (Hwa6.out.1.trans (hb1.mono Hwa6.out.1.size)) (Below.row hb1 Hwa6.out.2))
  clear hb1
  go_wp2_with fail
  refine (lit_3 _).mono ?_
  rintro r wo2 ⟨rfl, hb2⟩
  have Hwo2 := mkHid (And.intro (Hwo1.out.1.trans (hb2.mono Hwo1.out.1.size)) (Below.row hb2 Hwo1.out.2))
  clear hb2
  obtain ⟨wo3, hw3⟩ : ∃ u, wo2.alloc (.cells #[.int .i64 1, .string ⟨#[]⟩, .int .i64 2, .bool false, .int .i64 1, .string ⟨#[]⟩, .slice none 0 0, .slice none 0 0, .slice none 0 0, .slice none 0 0, .int .i64 1, .string ⟨#[]⟩, .int .i64 2, .bool false, .int .i64 1, .string ⟨#[]⟩, .slice none 0 0, .slice none 0 0, .slice none 0 0, .slice none 0 0] 28) = u := ⟨_, rfl⟩
  have Gwo3 := mkHid hw3
  obtain ⟨r3, hb3⟩ := alloc1 hw3
  have Hwo3 := mkHid (And.intro (Hwo2.out.1.trans (hb3.mono Hwo2.out.1.size)) (Below.row hb3 Hwo2.out.2))
  have Rwo3 := mkHid r3
  clear hw3 hb3 r3
  go_wp2_with (first | rw [Gwo3.out] | fail)
  refine (V.vnone _).mono ?_
  rintro r wo4 ⟨rfl, hb4⟩
  have Hwo4 := mkHid (And.intro (Hwo3.out.1.trans (hb4.mono Hwo3.out.1.size)) (Below.row hb4 Hwo3.out.2))
  have r4 := Below.row hb4 Rwo3.out
  obtain ⟨gg, hgg⟩ : ∃ g, wo2.heap.size = g := ⟨_, rfl⟩
  rw [hgg] at r4 ⊢
  have ke : Calls Tryz.prog 9 #[.agg #[.int .i64 6, .string ⟨#[79, 82]⟩, .int .i64 0, .bool false, .int .i64 0, .string ⟨#[]⟩, .slice none 0 0, .slice none 0 0, .slice (some ⟨gg, 0, none⟩) 2 2, .slice none 0 0], .agg #[.int .i64 0, .bool false, .int .i64 0, .string ⟨#[]⟩, .slice none 0 0, .slice none 0 0]] wo4 fun r w' => r = .returned (.tuple #[.agg #[.int .i64 0, .bool false, .int .i64 0, .string ⟨#[]⟩, .slice none 0 0, .slice none 0 0], .int .i64 131]) ∧ Below wo4.heap.size wo4 w' := eval_or (inL 1) (inL 1) gg wo4 (lt_of_row r4) (at10_row r4 (cs_3 _)) (at10_row r4 cs_33)
  clear r4 hgg hb4 Rwo3 Gwo3
  go_wp2_with fail
  refine ke.mono ?_
  rintro r wo5 ⟨rfl, hb5⟩
  have Hwo5 := mkHid (And.intro (Hwo4.out.1.trans (hb5.mono Hwo4.out.1.size)) (Below.row hb5 Hwo4.out.2))
  obtain ⟨wo6, hw6⟩ : ∃ u, wo5.alloc (.cells #[.int .i64 0, .bool false, .int .i64 0, .string ⟨#[]⟩, .slice none 0 0, .slice none 0 0] 25) = u := ⟨_, rfl⟩
  have Gwo6 := mkHid hw6
  obtain ⟨r6, hb6⟩ := alloc1 hw6
  have Hwo6 := mkHid (And.intro (Hwo5.out.1.trans (hb6.mono Hwo5.out.1.size)) (Below.row hb6 Hwo5.out.2))
  obtain ⟨zo, hzo⟩ : ∃ z, wo5.heap.size = z := ⟨_, rfl⟩
  have Ezo := mkHid hzo
  rw [hzo] at r6
  clear ke hb5 hw6 hzo
  have Jwo6 := mkHid (And.intro (Hwo6.out.1) (And.intro (Hwo6.out.2) (r6)))
  clear r6 hb6 Hwo1 Hwo2 Hwo3 Hwo4 Hwo5 Hwo6
  have Hwo6 := Jwo6
  clear Jwo6
  go_wp2_with fail
  rw [Gwo6.out, Ezo.out]
  refine (lit_3 _).mono ?_
  rintro r wn1 ⟨rfl, hb1⟩
  have Hwn1 := mkHid (And.intro (Hwo6.out.1.trans (hb1.mono Hwo6.out.1.size)) (And.intro (Below.row hb1 Hwo6.out.2.1) (Below.row hb1 Hwo6.out.2.2)))
  clear hb1
  obtain ⟨wn3, hw3⟩ : ∃ u, wn1.alloc (.cells #[.int .i64 1, .string ⟨#[]⟩, .int .i64 2, .bool false, .int .i64 1, .string ⟨#[]⟩, .slice none 0 0, .slice none 0 0, .slice none 0 0, .slice none 0 0] 28) = u := ⟨_, rfl⟩
  have Gwn3 := mkHid hw3
  obtain ⟨r3, hb3⟩ := alloc1 hw3
  have Hwn3 := mkHid (And.intro (Hwn1.out.1.trans (hb3.mono Hwn1.out.1.size)) (And.intro (Below.row hb3 Hwn1.out.2.1) (Below.row hb3 Hwn1.out.2.2)))
  have Rwn3 := mkHid r3
  clear hw3 hb3 r3
  go_wp2_with (first | rw [Gwn3.out] | fail)
  refine (V.vnone _).mono ?_
  rintro r wn4 ⟨rfl, hb4⟩
  have Hwn4 := mkHid (And.intro (Hwn3.out.1.trans (hb4.mono Hwn3.out.1.size)) (And.intro (Below.row hb4 Hwn3.out.2.1) (Below.row hb4 Hwn3.out.2.2)))
  have r4 := Below.row hb4 Rwn3.out
  obtain ⟨gg, hgg⟩ : ∃ g, wn1.heap.size = g := ⟨_, rfl⟩
  rw [hgg] at r4 ⊢
  have ke : Calls Tryz.prog 9 #[.agg #[.int .i64 4, .string ⟨#[]⟩, .int .i64 0, .bool false, .int .i64 0, .string ⟨#[]⟩, .slice none 0 0, .slice none 0 0, .slice (some ⟨gg, 0, none⟩) 1 1, .slice none 0 0], .agg #[.int .i64 0, .bool false, .int .i64 0, .string ⟨#[]⟩, .slice none 0 0, .slice none 0 0]] wn4 fun r w' => r = .returned (.tuple #[.agg #[.int .i64 0, .bool false, .int .i64 0, .string ⟨#[]⟩, .slice none 0 0, .slice none 0 0], .int .i64 131]) ∧ Below wn4.heap.size wn4 w' := eval_not (inL 1) ⟨rfl, rfl, rfl, rfl⟩ gg wn4 (lt_of_row r4) (at10_row r4 (cs_3 _))
  clear r4 hgg hb4 Rwn3 Gwn3
  go_wp2_with fail
  refine ke.mono ?_
  rintro r wn5 ⟨rfl, hb5⟩
  have Hwn5 := mkHid (And.intro (Hwn4.out.1.trans (hb5.mono Hwn4.out.1.size)) (And.intro (Below.row hb5 Hwn4.out.2.1) (Below.row hb5 Hwn4.out.2.2)))
  obtain ⟨wn6, hw6⟩ : ∃ u, wn5.alloc (.cells #[.int .i64 0, .bool false, .int .i64 0, .string ⟨#[]⟩, .slice none 0 0, .slice none 0 0] 25) = u := ⟨_, rfl⟩
  have Gwn6 := mkHid hw6
  obtain ⟨r6, hb6⟩ := alloc1 hw6
  have Hwn6 := mkHid (And.intro (Hwn5.out.1.trans (hb6.mono Hwn5.out.1.size)) (And.intro (Below.row hb6 Hwn5.out.2.1) (Below.row hb6 Hwn5.out.2.2)))
  obtain ⟨zn, hzn⟩ : ∃ z, wn5.heap.size = z := ⟨_, rfl⟩
  have Ezn := mkHid hzn
  rw [hzn] at r6
  clear ke hb5 hw6 hzn
  have Jwn6 := mkHid (And.intro (Hwn6.out.1) (And.intro (Hwn6.out.2.1) (And.intro (Hwn6.out.2.2) (r6))))
  clear r6 hb6 Hwn1 Hwn3 Hwn4 Hwn5 Hwn6
  have Hwn6 := Jwn6
  clear Jwn6
  have kaw := awake_any wn6 (HEG.out.1.later Hwn6.out.1) (HEG.out.2.later Hwn6.out.1)
  go_wp2_with fail
  rw [Gwn6.out, Ezn.out]
  refine kaw.mono ?_
  rintro r wz ⟨rfl, hbz⟩
  have HZ : Hid (Below w.heap.size w wz) := Hwn6.out.1.trans (hbz.mono Hwn6.out.1.size)
  have cza : wz.cell? ⟨za, 1, none⟩ = some (.bool false) := cell_of_row wz _ 1 _ _ _ (Below.row hbz Hwn6.out.2.1)
  have czo : wz.cell? ⟨zo, 1, none⟩ = some (.bool false) := cell_of_row wz _ 1 _ _ _ (Below.row hbz Hwn6.out.2.2.1)
  have czn : wz.cell? ⟨zn, 1, none⟩ = some (.bool false) := cell_of_row wz _ 1 _ _ _ (Below.row hbz Hwn6.out.2.2.2)
  clear hbz kaw Hwn6 Gwn6 Ezn Gwo6 Ezo Gwa6 Eza HEG
  go_wp2
  go_ret
  exact ⟨rfl, HZ.out⟩
end Go.Proofs.YtnnclhmhbmbkfaaGreatDoor
namespace Go.Proofs.YtnnclhmhbmbkfaaGreatDoor
open Go.RowKit Go.Shelf
theorem truths_walk (a b : Int) (W : World) (he : Ev W) (hg : Gm W) : Calls Tryz.prog 5 #[.int .i64 a, .int .i64 b] W fun e w' => e = .returned (.bool true) ∧ Below W.heap.size W w' := by
  rcases bits3 a with h | h | h | h <;> rcases bits3 b with k | k | k | k
  · exact truths_00 a b h k W he hg
  · exact truths_01 a b h k W he hg
  · exact truths_02 a b h k W he hg
  · exact truths_03 a b h k W he hg
  · exact truths_10 a b h k W he hg
  · exact truths_11 a b h k W he hg
  · exact truths_12 a b h k W he hg
  · exact truths_13 a b h k W he hg
  · exact truths_20 a b h k W he hg
  · exact truths_21 a b h k W he hg
  · exact truths_22 a b h k W he hg
  · exact truths_23 a b h k W he hg
  · exact truths_30 a b h k W he hg
  · exact truths_31 a b h k W he hg
  · exact truths_32 a b h k W he hg
  · exact truths_33 a b h k W he hg
end Go.Proofs.YtnnclhmhbmbkfaaGreatDoor
namespace Go.Proofs.YtnnclhmhbmbkfaaGreatDoor
open Go.ChangeShapes Go.WideShapes Go.ChangeAt Go.WideMaps Go.WideElems Go.RowKit
theorem own : ownKnob Tryz.prog.godebug = none := by kernel_rfl
abbrev laid7 : List (String × DataW Unit) := [("math/bits.deBruijn32tab", Rows.laid_math_bits_deBruijn32tab), ("math/bits.deBruijn64tab", Rows.laid_math_bits_deBruijn64tab), ("internal/strconv.uint64pow10", Rows.laid_internal_strconv_uint64pow10), ("unicode/utf8.acceptRanges", Rows.laid_unicode_utf8_acceptRanges), ("strconv.ErrRange", Rows.laid_strconv_ErrRange), ("strconv.ErrSyntax", Rows.laid_strconv_ErrSyntax), ("unicode/utf8.first", Rows.laid_unicode_utf8_first)]
theorem gErr : Tryz.prog.globalNamed "strconv.ErrRange" = some 2 := by kernel_rfl
theorem tErr : (Tryz.prog.globals[2]?).map (·.type) = some 141 := by kernel_rfl
theorem gSyn : Tryz.prog.globalNamed "strconv.ErrSyntax" = some 1 := by kernel_rfl
theorem tSyn : (Tryz.prog.globals[1]?).map (·.type) = some 141 := by kernel_rfl
theorem star : "*" ++ "errors.errorString" = "*errors.errorString" := by decide
theorem row194 (u : TypeId) (h : Tryz.prog.typeName? 3 u = some "*errors.errorString") : u = 194 :=
  typeName_ptr_named (nm := "errors.errorString") (by rw [star]; kernel_rfl) (by kernel_rfl) (by decide) u (by rw [star]; exact h)
theorem cells196 : Tryz.prog.cellsOf 196 = 1 := by kernel_rfl
theorem cells9 : Tryz.prog.cellsOf 9 = 1 := by kernel_rfl
theorem of_laid {W : World} (h : laidMetH Tryz.prog laid7 W) : Ev W := by
  rw [MakeChecks.laidMetH_plain _ _ _ (by kernel_rfl)] at h
  have h3 := h.tail.tail.tail.tail
  have h4 := h3.tail
  obtain ⟨a, s, hv, _⟩ := laid_sentinel h3 gErr tErr Tryz.underlying141 row194 Tryz.underlying194 Tryz.underlying196 rfl rfl Tryz.underlying9 cells196 cells9
  obtain ⟨a', s', hv', _⟩ := laid_sentinel h4 gSyn tSyn Tryz.underlying141 row194 Tryz.underlying194 Tryz.underlying196 rfl rfl Tryz.underlying9 cells196 cells9
  have h0 := World.var?_cell gErr hv 0
  have h1 := World.var?_cell gSyn hv' 0
  exact ⟨⟨194, _, by simpa using h1⟩, ⟨194, _, by simpa using h0⟩⟩
end Go.Proofs.YtnnclhmhbmbkfaaGreatDoor
namespace Go.Proofs.YtnnclhmhbmbkfaaGreatDoor
open Go.RowKit
theorem wrap_shaped {H : Type} {enc : TypeId × Value → H} {a : Assume} {C : Checked} {os : Os} {f : FuncId} {fn : Func} {s : ChangeSpec} {conds : List PathCond} {apart fresh handsOn again : Bool} {X : World → Array Value → Prop}
    (hX : ∀ (w w' : World) (args : Array Value), w.heap = w'.heap → X w args → X w' args)
    (own : ownKnob C.prog.godebug = none) (started : os.Started) (noInit : C.prog.inits.idxOf? f = none) (hfn : C.prog.funcs[f]? = some fn)
    (witness : ∃ (w : World) (tape : Tape) (i : Input), w.os = os ∧ (w.forCall tape i).Shaped C.prog ∧ i.vars = [] ∧ Input.okWide C.prog (w.forCall tape i) .any w.heap.size f i ∧
      ((s.pre enc C.prog fn conds apart (w.forCall tape i).memory i.args ∧ X (w.forCall tape i).memory i.args) ∧ sizedMet enc C.prog fn (OpenSpec.ofChange s) apart (w.forCall tape i).memory i.args) ∧ a.holds C.prog (lone (Frame.enter C.prog f i.args .normal) [] (w.forCall tape i)))
    (contract : ∀ (W : World) (base : Nat) (args : Array Value) (ds gs : List (DataW H)) (before : List MemPlace),
      (∀ (j : Nat) t v, fn.params[j]? = some t → args[j]? = some v → Value.okWide C.prog W .any base t v) →
      DataW.Whole enc C.prog fn.params.toList s.vars apart W args.toList ds gs before → W.ShapedOpen C.prog → X W args →
      Calls C.prog f args W fun e W' => ∃ v, e = .returned v ∧ s.post enc C.prog fn apart fresh handsOn again W args v W') :
    ReturnsInHanded a C os f .any (fun w args => (s.pre enc C.prog fn conds apart w args ∧ X w args) ∧ sizedMet enc C.prog fn (OpenSpec.ofChange s) apart w args) (s.post enc C.prog fn apart fresh handsOn again) := by
  refine returnsInHanded_of_calls own started noInit witness ?_
  intro w tape i _ hsh _ hok hpre _
  obtain ⟨_, _, _, fn', hfn', _, _, _, _, hval⟩ := hok
  have e : fn' = fn := Option.some.inj (hfn'.symm.trans hfn)
  subst e
  obtain ⟨⟨⟨ds, gs, before, hw, _⟩, hx⟩, _⟩ := hpre
  have hw' := DataW.Whole.of_heap (w' := w.forCall tape i) (by rfl) hw
  refine (contract (w.forCall tape i) w.heap.size i.args ds gs before hval hw' hsh (hX _ _ _ (by rfl) hx)).mono fun e W' ⟨v, he, hp⟩ => ?_
  subst he
  exact ChangeSpec.post_blind hp
theorem gm_of {W : World} (h : W.ShapedOpen Tryz.prog) : Gm W :=
  cell_of_shapedOpen_int (P := Tryz.prog) (g := 0) (t := 3) (zero := #[.int .i64 0]) h (of_decide_eq_true (by kernel_rfl)) (by kernel_rfl) rfl (by kernel_rfl) (by kernel_rfl) Tryz.underlying3
end Go.Proofs.YtnnclhmhbmbkfaaGreatDoor
