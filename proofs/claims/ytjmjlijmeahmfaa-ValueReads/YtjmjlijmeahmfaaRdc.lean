/- A value off the document's cursor, and of bytes (its take, its Decode): the program's own, or its error. -/
import Derived.Test.YtjmjlijmeahmfaaRtk
import Derived.Test.YtjmjlijmeahmfaaRvls
namespace Go.Proofs.Ytjmjlijmeahmfaa
open Go.RowKit
theorem none_done {w w1 : World} (a b c : Value) (B1 : Below w.heap.size w w1) (r4 : w1.heap[w.heap.size + 1]? = some (.cells #[.string ⟨#[]⟩, .int .i64 0, .int .i64 0] 80 (0, 0))) (r5 : w1.heap[w.heap.size + 1 + 1]? = some (.cells #[.int .i64 0, .bool false, .int .i64 0, .string ⟨#[]⟩, .slice none 0 0, .slice none 0 0] 33 (0, 0))) :
    ∃ wf, set6 (set3 (set3 w1 w.heap.size a b c) (w.heap.size + 1) a b c) (w.heap.size + 1 + 1) (.int .i64 0) (.bool false) (.int .i64 0) (.string ⟨#[]⟩) (.slice none 0 0) (.slice none 0 0) = wf ∧ wf.heap[w.heap.size + 1]? = some (.cells #[a, b, c] 80 (0, 0)) ∧ wf.heap[w.heap.size + 1 + 1]? = some (.cells #[.int .i64 0, .bool false, .int .i64 0, .string ⟨#[]⟩, .slice none 0 0, .slice none 0 0] 33 (0, 0)) ∧ Below w.heap.size w wf := by
  refine ⟨_, rfl, ?_, ?_, ?_⟩
  · rw [set6_block _ _ _ _ _ _ _ _ _ (by omega)]
    exact set3_row ((set3_block w1 w.heap.size a b c (w.heap.size + 1) (by omega)).trans r4) a b c
  · exact set6_row ((set3_block (set3 w1 w.heap.size a b c) (w.heap.size + 1) a b c (w.heap.size + 1 + 1) (by omega)).trans ((set3_block w1 w.heap.size a b c (w.heap.size + 1 + 1) (by omega)).trans r5)) _ _ _ _ _ _
  · exact set6_below (below_set3 (below_set3 B1 (Nat.le_refl _) a b c) (by omega) a b c) _ (by omega) _ _ _ _ _ _
set_option maxRecDepth 100000 in
set_option maxHeartbeats 4000000 in
theorem rtake_none {s : ByteArray} (hs : s.size ≤ 4096) (d : Int) (w : World) (o : Nat) (e e1 e2 : Int) (ho : o ≤ s.size) (h1 : (e1 = 30 ∧ e = 0 ∧ 8 < d) ∨ (e1 = e ∧ ¬ (e = 0 ∧ 8 < d))) (hA : bytesA s o e1 1 = ⟨⟨#[]⟩, o, e2⟩) (h2 : e2 ≠ 0) :
    Calls Try.prog 48 #[.agg #[.string s, .int .i64 (o : Int), .int .i64 e], .int .i64 d] w fun r w' => ∃ (A : Ad) (u : Tr) (o' : Nat),
    r = .returned (.tuple #[.agg #[.string s, .int .i64 (o' : Int), .int .i64 e2], u.val A]) ∧ LiesS (fun k => w.heap.size ≤ k ∧ k < w'.heap.size) w' u A ∧ o' ≤ s.size ∧ (e2 = 0 → o' = o ∧ u = leafT 0 false 0 ⟨#[]⟩) ∧ Below w.heap.size w w' := by
  have hby := fun W => rbytes_at s o e1 1 ho hs W
  rw [hA] at hby
  clear hA
  have h2' : (e2 != 0) = true := by simpa using h2
  rcases h1 with ⟨rfl, rfl, h8⟩ | ⟨rfl, h8⟩
  · skip
    obtain ⟨W, hW⟩ : ∃ W, ((w.alloc (.cells #[.string s, .int .i64 (o : Int), .int .i64 0] 80)).alloc (.cells #[.string ⟨#[]⟩, .int .i64 0, .int .i64 0] 80)).alloc (.cells #[.int .i64 0, .bool false, .int .i64 0, .string ⟨#[]⟩, .slice none 0 0, .slice none 0 0] 33) = W := ⟨_, rfl⟩
    have hrw : Below w.heap.size w W ∧ W.heap[w.heap.size]? = some (.cells #[.string s, .int .i64 (o : Int), .int .i64 0] 80 (0, 0)) ∧ W.heap[w.heap.size + 1]? = some (.cells #[.string ⟨#[]⟩, .int .i64 0, .int .i64 0] 80 (0, 0)) ∧ W.heap[w.heap.size + 1 + 1]? = some (.cells #[.int .i64 0, .bool false, .int .i64 0, .string ⟨#[]⟩, .slice none 0 0, .slice none 0 0] 33 (0, 0)) ∧ w.heap.size + 1 + 1 + 1 ≤ W.heap.size := by
      rw [← hW]; exact rows_call3 (Below.refl _ _)
    go_enter Try.func48, Try.ntmps48
    go_upto_region 1 with fail
    obtain ⟨B0, r2, r4, r5, hsz⟩ := hrw
    obtain ⟨⟨c0, c1, c2⟩, f0, f1, f2⟩ := row3 r2
    clear hW
    go_wp2_with fail
    refine (hby _).mono ?_
    rintro e w1 ⟨rfl, hb1⟩
    have q2 := (hb1.block w.heap.size (by simp; omega)).trans (row_setCell (k := 2) r2 (.int .i64 30))
    have q4 := (hb1.block (w.heap.size + 1) (by simp; omega)).trans ((Below.heap_setCell W ⟨w.heap.size, 2, none⟩ (.int .i64 30) (w.heap.size + 1) (by show w.heap.size + 1 ≠ w.heap.size; omega)).trans r4)
    have q5 := (hb1.block (w.heap.size + 1 + 1) (by simp; omega)).trans ((Below.heap_setCell W ⟨w.heap.size, 2, none⟩ (.int .i64 30) (w.heap.size + 1 + 1) (by show w.heap.size + 1 + 1 ≠ w.heap.size; omega)).trans r5)
    have B1 : Below w.heap.size w w1 := (B0.setCell (p := ⟨w.heap.size, 2, none⟩) (Nat.le_refl _) (.int .i64 30)).trans (hb1.mono (by simp; omega))
    replace q2 : w1.heap[w.heap.size]? = some (.cells #[.string s, .int .i64 (o : Int), .int .i64 30] 80 (0, 0)) := q2
    clear hb1 c0 c1 c2 f0 f1 f2 B0 r2 r4 r5 hby
    obtain ⟨⟨c0, c1, c2⟩, f0, f1, f2⟩ := row3 q2
    obtain ⟨⟨b0, b1, b2⟩, g0, g1, g2⟩ := row3 q4
    have d0 := cell_of_row _ _ 0 _ _ _ q5
    have h10 := frozen_of_row _ _ 0 _ _ q5
    have d1 := cell_of_row _ _ 1 _ _ _ q5
    have h11 := frozen_of_row _ _ 1 _ _ q5
    have d2 := cell_of_row _ _ 2 _ _ _ q5
    have h12 := frozen_of_row _ _ 2 _ _ q5
    have d3 := cell_of_row _ _ 3 _ _ _ q5
    have h13 := frozen_of_row _ _ 3 _ _ q5
    have d4 := cell_of_row _ _ 4 _ _ _ q5
    have h14 := frozen_of_row _ _ 4 _ _ q5
    have d5 := cell_of_row _ _ 5 _ _ _ q5
    have h15 := frozen_of_row _ _ 5 _ _ q5
    go_wp2
    change bodyPost _ _ _ _ _ (set6 (set3 (set3 w1 w.heap.size (.string s) (.int .i64 (o : Int)) (.int .i64 e2)) (w.heap.size + 1) (.string s) (.int .i64 (o : Int)) (.int .i64 e2)) (w.heap.size + 1 + 1) (.int .i64 0) (.bool false) (.int .i64 0) (.string ⟨#[]⟩) (.slice none 0 0) (.slice none 0 0))
    obtain ⟨wf, hwf, hro4, hro5, hbf⟩ := none_done (.string s) (.int .i64 (o : Int)) (.int .i64 e2) B1 q4 q5
    rw [hwf]
    clear hwf
    obtain ⟨⟨k0, k1, k2⟩, _, _, _⟩ := row3 hro4
    have v0 := cell_of_row wf _ 0 _ _ _ hro5
    have v1 := cell_of_row wf _ 1 _ _ _ hro5
    have v2 := cell_of_row wf _ 2 _ _ _ hro5
    have v3 := cell_of_row wf _ 3 _ _ _ hro5
    have v4 := cell_of_row wf _ 4 _ _ _ hro5
    have v5 := cell_of_row wf _ 5 _ _ _ hro5
    refine bodyPost_ret (v := .tuple #[.agg #[.string s, .int .i64 (o : Int), .int .i64 e2], .agg #[.int .i64 0, .bool false, .int .i64 0, .string ⟨#[]⟩, .slice none 0 0, .slice none 0 0]]) (by simp [results, Try.results48, go_sem, k0, k1, k2, v0, v1, v2, v3, v4, v5]) rfl ⟨⟨none, 0, none, 0⟩, leafT 0 false 0 ⟨#[]⟩, o, rfl, lies_leaf (by decide) (by decide) (Nat.zero_le _), ho, fun h => absurd h h2, hbf⟩
  · by_cases he : e1 = 0
    · subst he
      have h8' : ¬ 8 < d := fun h => h8 ⟨rfl, h⟩
      clear h8
      obtain ⟨W, hW⟩ : ∃ W, ((w.alloc (.cells #[.string s, .int .i64 (o : Int), .int .i64 0] 80)).alloc (.cells #[.string ⟨#[]⟩, .int .i64 0, .int .i64 0] 80)).alloc (.cells #[.int .i64 0, .bool false, .int .i64 0, .string ⟨#[]⟩, .slice none 0 0, .slice none 0 0] 33) = W := ⟨_, rfl⟩
      have hrw : Below w.heap.size w W ∧ W.heap[w.heap.size]? = some (.cells #[.string s, .int .i64 (o : Int), .int .i64 0] 80 (0, 0)) ∧ W.heap[w.heap.size + 1]? = some (.cells #[.string ⟨#[]⟩, .int .i64 0, .int .i64 0] 80 (0, 0)) ∧ W.heap[w.heap.size + 1 + 1]? = some (.cells #[.int .i64 0, .bool false, .int .i64 0, .string ⟨#[]⟩, .slice none 0 0, .slice none 0 0] 33 (0, 0)) ∧ w.heap.size + 1 + 1 + 1 ≤ W.heap.size := by
        rw [← hW]; exact rows_call3 (Below.refl _ _)
      go_enter Try.func48, Try.ntmps48
      go_upto_region 1 with fail
      obtain ⟨B0, r2, r4, r5, hsz⟩ := hrw
      obtain ⟨⟨c0, c1, c2⟩, f0, f1, f2⟩ := row3 r2
      clear hW
      go_wp2_with fail
      refine (hby _).mono ?_
      rintro e w1 ⟨rfl, hb1⟩
      have q2 := (hb1.block w.heap.size (by omega)).trans r2
      have q4 := (hb1.block (w.heap.size + 1) (by omega)).trans r4
      have q5 := (hb1.block (w.heap.size + 1 + 1) (by omega)).trans r5
      have B1 : Below w.heap.size w w1 := B0.trans (hb1.mono (by omega))
      clear hb1 c0 c1 c2 f0 f1 f2 B0 r2 r4 r5 hby
      obtain ⟨⟨c0, c1, c2⟩, f0, f1, f2⟩ := row3 q2
      obtain ⟨⟨b0, b1, b2⟩, g0, g1, g2⟩ := row3 q4
      have d0 := cell_of_row _ _ 0 _ _ _ q5
      have h10 := frozen_of_row _ _ 0 _ _ q5
      have d1 := cell_of_row _ _ 1 _ _ _ q5
      have h11 := frozen_of_row _ _ 1 _ _ q5
      have d2 := cell_of_row _ _ 2 _ _ _ q5
      have h12 := frozen_of_row _ _ 2 _ _ q5
      have d3 := cell_of_row _ _ 3 _ _ _ q5
      have h13 := frozen_of_row _ _ 3 _ _ q5
      have d4 := cell_of_row _ _ 4 _ _ _ q5
      have h14 := frozen_of_row _ _ 4 _ _ q5
      have d5 := cell_of_row _ _ 5 _ _ _ q5
      have h15 := frozen_of_row _ _ 5 _ _ q5
      go_wp2
      change bodyPost _ _ _ _ _ (set6 (set3 (set3 w1 w.heap.size (.string s) (.int .i64 (o : Int)) (.int .i64 e2)) (w.heap.size + 1) (.string s) (.int .i64 (o : Int)) (.int .i64 e2)) (w.heap.size + 1 + 1) (.int .i64 0) (.bool false) (.int .i64 0) (.string ⟨#[]⟩) (.slice none 0 0) (.slice none 0 0))
      obtain ⟨wf, hwf, hro4, hro5, hbf⟩ := none_done (.string s) (.int .i64 (o : Int)) (.int .i64 e2) B1 q4 q5
      rw [hwf]
      clear hwf
      obtain ⟨⟨k0, k1, k2⟩, _, _, _⟩ := row3 hro4
      have v0 := cell_of_row wf _ 0 _ _ _ hro5
      have v1 := cell_of_row wf _ 1 _ _ _ hro5
      have v2 := cell_of_row wf _ 2 _ _ _ hro5
      have v3 := cell_of_row wf _ 3 _ _ _ hro5
      have v4 := cell_of_row wf _ 4 _ _ _ hro5
      have v5 := cell_of_row wf _ 5 _ _ _ hro5
      refine bodyPost_ret (v := .tuple #[.agg #[.string s, .int .i64 (o : Int), .int .i64 e2], .agg #[.int .i64 0, .bool false, .int .i64 0, .string ⟨#[]⟩, .slice none 0 0, .slice none 0 0]]) (by simp [results, Try.results48, go_sem, k0, k1, k2, v0, v1, v2, v3, v4, v5]) rfl ⟨⟨none, 0, none, 0⟩, leafT 0 false 0 ⟨#[]⟩, o, rfl, lies_leaf (by decide) (by decide) (Nat.zero_le _), ho, fun h => absurd h h2, hbf⟩
    · have he' : (e1 == 0) = false := by simpa using he
      clear h8
      obtain ⟨W, hW⟩ : ∃ W, ((w.alloc (.cells #[.string s, .int .i64 (o : Int), .int .i64 e1] 80)).alloc (.cells #[.string ⟨#[]⟩, .int .i64 0, .int .i64 0] 80)).alloc (.cells #[.int .i64 0, .bool false, .int .i64 0, .string ⟨#[]⟩, .slice none 0 0, .slice none 0 0] 33) = W := ⟨_, rfl⟩
      have hrw : Below w.heap.size w W ∧ W.heap[w.heap.size]? = some (.cells #[.string s, .int .i64 (o : Int), .int .i64 e1] 80 (0, 0)) ∧ W.heap[w.heap.size + 1]? = some (.cells #[.string ⟨#[]⟩, .int .i64 0, .int .i64 0] 80 (0, 0)) ∧ W.heap[w.heap.size + 1 + 1]? = some (.cells #[.int .i64 0, .bool false, .int .i64 0, .string ⟨#[]⟩, .slice none 0 0, .slice none 0 0] 33 (0, 0)) ∧ w.heap.size + 1 + 1 + 1 ≤ W.heap.size := by
        rw [← hW]; exact rows_call3 (Below.refl _ _)
      go_enter Try.func48, Try.ntmps48
      go_upto_region 1 with fail
      obtain ⟨B0, r2, r4, r5, hsz⟩ := hrw
      obtain ⟨⟨c0, c1, c2⟩, f0, f1, f2⟩ := row3 r2
      clear hW
      go_wp2_with fail
      refine (hby _).mono ?_
      rintro e w1 ⟨rfl, hb1⟩
      have q2 := (hb1.block w.heap.size (by omega)).trans r2
      have q4 := (hb1.block (w.heap.size + 1) (by omega)).trans r4
      have q5 := (hb1.block (w.heap.size + 1 + 1) (by omega)).trans r5
      have B1 : Below w.heap.size w w1 := B0.trans (hb1.mono (by omega))
      clear hb1 c0 c1 c2 f0 f1 f2 B0 r2 r4 r5 hby
      obtain ⟨⟨c0, c1, c2⟩, f0, f1, f2⟩ := row3 q2
      obtain ⟨⟨b0, b1, b2⟩, g0, g1, g2⟩ := row3 q4
      have d0 := cell_of_row _ _ 0 _ _ _ q5
      have h10 := frozen_of_row _ _ 0 _ _ q5
      have d1 := cell_of_row _ _ 1 _ _ _ q5
      have h11 := frozen_of_row _ _ 1 _ _ q5
      have d2 := cell_of_row _ _ 2 _ _ _ q5
      have h12 := frozen_of_row _ _ 2 _ _ q5
      have d3 := cell_of_row _ _ 3 _ _ _ q5
      have h13 := frozen_of_row _ _ 3 _ _ q5
      have d4 := cell_of_row _ _ 4 _ _ _ q5
      have h14 := frozen_of_row _ _ 4 _ _ q5
      have d5 := cell_of_row _ _ 5 _ _ _ q5
      have h15 := frozen_of_row _ _ 5 _ _ q5
      go_wp2
      change bodyPost _ _ _ _ _ (set6 (set3 (set3 w1 w.heap.size (.string s) (.int .i64 (o : Int)) (.int .i64 e2)) (w.heap.size + 1) (.string s) (.int .i64 (o : Int)) (.int .i64 e2)) (w.heap.size + 1 + 1) (.int .i64 0) (.bool false) (.int .i64 0) (.string ⟨#[]⟩) (.slice none 0 0) (.slice none 0 0))
      obtain ⟨wf, hwf, hro4, hro5, hbf⟩ := none_done (.string s) (.int .i64 (o : Int)) (.int .i64 e2) B1 q4 q5
      rw [hwf]
      clear hwf
      obtain ⟨⟨k0, k1, k2⟩, _, _, _⟩ := row3 hro4
      have v0 := cell_of_row wf _ 0 _ _ _ hro5
      have v1 := cell_of_row wf _ 1 _ _ _ hro5
      have v2 := cell_of_row wf _ 2 _ _ _ hro5
      have v3 := cell_of_row wf _ 3 _ _ _ hro5
      have v4 := cell_of_row wf _ 4 _ _ _ hro5
      have v5 := cell_of_row wf _ 5 _ _ _ hro5
      refine bodyPost_ret (v := .tuple #[.agg #[.string s, .int .i64 (o : Int), .int .i64 e2], .agg #[.int .i64 0, .bool false, .int .i64 0, .string ⟨#[]⟩, .slice none 0 0, .slice none 0 0]]) (by simp [results, Try.results48, go_sem, k0, k1, k2, v0, v1, v2, v3, v4, v5]) rfl ⟨⟨none, 0, none, 0⟩, leafT 0 false 0 ⟨#[]⟩, o, rfl, lies_leaf (by decide) (by decide) (Nat.zero_le _), ho, fun h => absurd h h2, hbf⟩
theorem rtake_all {s : ByteArray} (hs : s.size ≤ 4096) : ∀ D : Nat, D ≤ 9 → RtakeC s (9 - (D : Int)) (takeA s D)
  | 0, _ => by
    intro w o e ho
    by_cases he : e = 0
    · subst he
      have hA : bytesA s o 30 1 = ⟨⟨#[]⟩, o, 30⟩ := by unfold bytesA; rw [if_neg (by decide)]
      exact rtake_none hs 9 w o 0 30 30 ho (Or.inl ⟨rfl, rfl, by decide⟩) hA (by decide)
    · have hA : bytesA s o e 1 = ⟨⟨#[]⟩, o, e⟩ := by unfold bytesA; rw [if_neg he]
      rw [take_err he]
      exact rtake_none hs 9 w o e e e ho (Or.inr ⟨rfl, fun h => he h.1⟩) hA he
  | D + 1, hD => by
    intro w o e ho
    have ih := rtake_all hs D (by omega)
    have hd : (9 : Int) - ((D + 1 : Nat) : Int) + 1 = 9 - (D : Int) := by omega
    by_cases he : e = 0
    · subst he
      by_cases h1 : o < s.size
      · have hT : takeA s (D + 1) o 0 = nodeA s (s.data.toList.getD o 0).toNat (o + 1) (takeA s D) := by rw [takeA, if_pos rfl, if_pos h1]; rfl
        rw [hT]
        exact rtake_in hs _ (by omega) (by omega) (by rw [hd]; exact ih) w o h1 _ rfl
      · have hT : takeA s (D + 1) o 0 = ⟨leafT 0 false 0 ⟨#[]⟩, o, 4⟩ := by rw [takeA, if_pos rfl, if_neg h1]
        have hA : bytesA s o 0 1 = ⟨⟨#[]⟩, o, 4⟩ := by unfold bytesA; rw [if_pos rfl, if_neg (by omega), if_pos (by omega)]
        rw [hT]
        exact rtake_none hs _ w o 0 0 4 ho (Or.inr ⟨rfl, by omega⟩) hA (by decide)
    · have hA : bytesA s o e 1 = ⟨⟨#[]⟩, o, e⟩ := by unfold bytesA; rw [if_neg he]
      rw [take_err he]
      exact rtake_none hs _ w o e e e ho (Or.inr ⟨rfl, fun h => he h.1⟩) hA he
end Go.Proofs.Ytjmjlijmeahmfaa
