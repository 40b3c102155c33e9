/- The part of a struct with a name (Get), there or not; of what is no struct. -/
import Derived.Test.YtjmjlijmeahmfaaGet
import Derived.Test.YtjmjlijmeahmfaaSimp
import Derived.Lib.SlicesS
namespace Go.Proofs.Ytjmjlijmeahmfaa
open Go.RowKit
theorem idx_nil (na : Option Addr) (nc : Nat) (F : Value) (w : World) : Calls Try.prog 61 #[.slice na 0 nc, F] w fun e w' => e = .returned (.int .i64 (-1)) ∧ ∃ k, w' = w.drewN k := by
  go_enter Try.func61, Try.ntmps61
  go_wp2
  refine wp_loop_rounds 1 ?_
  rw [rounds_succ]
  go_wp2
  go_ret
  exact ⟨rfl, 0, rfl⟩
theorem idx_hit {q i : Nat} {g : Nat → ByteArray} {nm : ByteArray} (hi : i < q) (h : g i = nm) (hj : ∀ j, j < i → g j ≠ nm) : Lib.idxBy (fun _ y => y.toList == nm.toList) ((List.range q).map g) (default : ByteArray) = (i : Int) := by
  have hl : ((List.range q).map g).length = q := by simp
  have hat : ∀ j, j < q → ((List.range q).map g)[j]! = g j := fun j hj => by rw [getElem!_pos _ j (by simpa using hj)]; simp
  have := Lib.idxBy_hit (fun _ y => y.toList == nm.toList) ((List.range q).map g) q i (default : ByteArray) hi (by omega) (by rw [hat i hi, h]; simp) (fun j hj2 => by rw [hat j (by omega)]; exact (Lib.bytes_beq_false_iff _ _).2 (hj j hj2))
  rwa [List.take_of_length_le (by omega)] at this
theorem idx_miss {q : Nat} {g : Nat → ByteArray} {nm : ByteArray} (hj : ∀ j, j < q → g j ≠ nm) : Lib.idxBy (fun _ y => y.toList == nm.toList) ((List.range q).map g) (default : ByteArray) = -1 := by
  have hl : ((List.range q).map g).length = q := by simp
  have hat : ∀ j, j < q → ((List.range q).map g)[j]! = g j := fun j hj => by rw [getElem!_pos _ j (by simpa using hj)]; simp
  have := Lib.idxBy_miss (fun _ y => y.toList == nm.toList) ((List.range q).map g) q (default : ByteArray) (fun j hj2 => by rw [hat j (by omega)]; exact (Lib.bytes_beq_false_iff _ _).2 (hj j hj2))
  rwa [List.take_of_length_le (by omega)] at this
theorem first_or {q : Nat} {g : Nat → ByteArray} {nm : ByteArray} : (∃ i, i < q ∧ g i = nm ∧ ∀ j, j < i → g j ≠ nm) ∨ ∀ j, j < q → g j ≠ nm := by
  induction q with
  | zero => exact Or.inr (fun j hj => absurd hj (Nat.not_lt_zero j))
  | succ q ih =>
    rcases ih with ⟨i, h1, h2, h3⟩ | h
    · exact Or.inl ⟨i, by omega, h2, h3⟩
    · by_cases hq : g q = nm
      · exact Or.inl ⟨q, by omega, hq, h⟩
      · refine Or.inr (fun j hj => ?_)
        rcases Nat.lt_or_ge j q with h4 | h4
        · exact h j h4
        · obtain rfl : j = q := by omega
          exact hq
set_option maxRecDepth 100000 in
set_option maxHeartbeats 4000000 in
theorem get_int (n : Int) (nm : ByteArray) (w : World) : Calls Try.prog 28 #[.agg #[.int .i64 2, .bool false, .int .i64 n, .string ⟨#[]⟩, .slice none 0 0, .slice none 0 0], .string nm] w fun e w' => e = .returned (.agg #[.int .i64 0, .bool false, .int .i64 0, .string ⟨#[]⟩, .slice none 0 0, .slice none 0 0]) ∧ Below w.heap.size w w' := by
  have hv : ∀ W : World, Calls Try.prog 35 #[] W fun r w' => r = .returned (.agg #[.int .i64 0, .bool false, .int .i64 0, .string ⟨#[]⟩, .slice none 0 0, .slice none 0 0]) ∧ Below W.heap.size W w' := fun W => vnone W
  obtain ⟨W3, hW3⟩ : ∃ W3, ((w.alloc (.cells #[.int .i64 2, .bool false, .int .i64 n, .string ⟨#[]⟩, .slice none 0 0, .slice none 0 0] 25)).alloc (.cells #[.string nm] 9)).alloc (.cells #[.int .i64 0, .bool false, .int .i64 0, .string ⟨#[]⟩, .slice none 0 0, .slice none 0 0] 25) = W3 := ⟨_, rfl⟩
  have hb3 : Below w.heap.size w W3 := by rw [← hW3]; exact (((Below.refl _ w).alloc (Nat.le_refl _) _).alloc (by simp) _).alloc (by simp; omega) _
  have hs3 : W3.heap.size = w.heap.size + 1 + 1 + 1 := by rw [← hW3]; simp
  have r2 : W3.heap[w.heap.size + 1 + 1]? = some (.cells #[.int .i64 0, .bool false, .int .i64 0, .string ⟨#[]⟩, .slice none 0 0, .slice none 0 0] 25 (0, 0)) := by
    rw [← hW3]
    have := heap_alloc_new ((w.alloc (.cells #[.int .i64 2, .bool false, .int .i64 n, .string ⟨#[]⟩, .slice none 0 0, .slice none 0 0] 25)).alloc (.cells #[.string nm] 9)) (.cells #[.int .i64 0, .bool false, .int .i64 0, .string ⟨#[]⟩, .slice none 0 0, .slice none 0 0] 25)
    simpa using this
  have HW : Hid (((w.alloc (.cells #[.int .i64 2, .bool false, .int .i64 n, .string ⟨#[]⟩, .slice none 0 0, .slice none 0 0] 25)).alloc (.cells #[.string nm] 9)).alloc (.cells #[.int .i64 0, .bool false, .int .i64 0, .string ⟨#[]⟩, .slice none 0 0, .slice none 0 0] 25) = W3) := hW3
  have HS3 : Hid (W3.heap.size = w.heap.size + 1 + 1 + 1) := hs3
  clear hW3 hs3
  go_enter Try.func28, Try.ntmps28
  go_wp2_with fail
  rw [HW.out]
  refine (hv W3).mono ?_
  rintro e w1 ⟨rfl, hb1⟩
  have hs3 := HS3.out
  have hz1 := hb1.size
  have q2 := (hb1.block _ (by omega)).trans r2
  have b0 := cell_of_row w1 _ 0 _ _ _ q2
  have b1 := cell_of_row w1 _ 1 _ _ _ q2
  have b2 := cell_of_row w1 _ 2 _ _ _ q2
  have b3 := cell_of_row w1 _ 3 _ _ _ q2
  have b4 := cell_of_row w1 _ 4 _ _ _ q2
  have b5 := cell_of_row w1 _ 5 _ _ _ q2
  have y0 := frozen_of_row w1 _ 0 _ _ q2
  have y1 := frozen_of_row w1 _ 1 _ _ q2
  have y2 := frozen_of_row w1 _ 2 _ _ q2
  have y3 := frozen_of_row w1 _ 3 _ _ q2
  have y4 := frozen_of_row w1 _ 4 _ _ q2
  have y5 := frozen_of_row w1 _ 5 _ _ q2
  have hbb : Below w.heap.size w w1 := hb3.trans (hb1.mono (by omega))
  clear hs3 HW HS3
  go_wp2
  change bodyPost _ _ _ _ _ (set6 w1 (w.heap.size + 1 + 1) (.int .i64 0) (.bool false) (.int .i64 0) (.string ⟨#[]⟩) (.slice none 0 0) (.slice none 0 0))
  have hro := set6_row q2 (.int .i64 0) (.bool false) (.int .i64 0) (.string ⟨#[]⟩) (.slice none 0 0) (.slice none 0 0)
  have hof := set6_below hbb (w.heap.size + 1 + 1) (by omega) (.int .i64 0) (.bool false) (.int .i64 0) (.string ⟨#[]⟩) (.slice none 0 0) (.slice none 0 0)
  obtain ⟨wf, hwf⟩ : ∃ wf, set6 w1 (w.heap.size + 1 + 1) (.int .i64 0) (.bool false) (.int .i64 0) (.string ⟨#[]⟩) (.slice none 0 0) (.slice none 0 0) = wf := ⟨_, rfl⟩
  rw [hwf] at hro hof ⊢
  clear hwf
  have o0 := cell_of_row wf _ 0 _ _ _ hro
  have o1 := cell_of_row wf _ 1 _ _ _ hro
  have o2 := cell_of_row wf _ 2 _ _ _ hro
  have o3 := cell_of_row wf _ 3 _ _ _ hro
  have o4 := cell_of_row wf _ 4 _ _ _ hro
  have o5 := cell_of_row wf _ 5 _ _ _ hro
  exact bodyPost_ret (v := .agg #[.int .i64 0, .bool false, .int .i64 0, .string ⟨#[]⟩, .slice none 0 0, .slice none 0 0]) (by simp [results, Try.results28, go_sem, o0, o1, o2, o3, o4, o5]) rfl ⟨rfl, hof⟩
set_option maxRecDepth 100000 in
set_option maxHeartbeats 4000000 in
theorem get_none {n : Int} {b : Bool} {s : ByteArray} {m q pc nc : Nat} {pa na : Option Addr} {w : World} {nm : ByteArray} (hidx : ∀ (W : World) (z : Nat), Below w.heap.size w W → W.cell? ⟨z, 0, none⟩ = some (.string nm) → Calls Try.prog 61 #[.slice na q nc, .func (.func 62) #[] #[.pointer (some ⟨z, 0, none⟩)]] W fun e w' => e = .returned (.int .i64 (-1)) ∧ ∃ k, w' = W.drewN k) :
    Calls Try.prog 28 #[.agg #[.int .i64 6, .bool b, .int .i64 n, .string s, .slice pa m pc, .slice na q nc], .string nm] w fun e w' => e = .returned (.agg #[.int .i64 0, .bool false, .int .i64 0, .string ⟨#[]⟩, .slice none 0 0, .slice none 0 0]) ∧ Below w.heap.size w w' := by
  have hv : ∀ W : World, Calls Try.prog 35 #[] W fun r w' => r = .returned (.agg #[.int .i64 0, .bool false, .int .i64 0, .string ⟨#[]⟩, .slice none 0 0, .slice none 0 0]) ∧ Below W.heap.size W w' := fun W => vnone W
  obtain ⟨W3, hW3⟩ : ∃ W3, ((w.alloc (.cells #[.int .i64 6, .bool b, .int .i64 n, .string s, .slice pa m pc, .slice na q nc] 25)).alloc (.cells #[.string nm] 9)).alloc (.cells #[.int .i64 0, .bool false, .int .i64 0, .string ⟨#[]⟩, .slice none 0 0, .slice none 0 0] 25) = W3 := ⟨_, rfl⟩
  have hb3 : Below w.heap.size w W3 := by rw [← hW3]; exact (((Below.refl _ w).alloc (Nat.le_refl _) _).alloc (by simp) _).alloc (by simp; omega) _
  have hs3 : W3.heap.size = w.heap.size + 1 + 1 + 1 := by rw [← hW3]; simp
  have r2 : W3.heap[w.heap.size + 1 + 1]? = some (.cells #[.int .i64 0, .bool false, .int .i64 0, .string ⟨#[]⟩, .slice none 0 0, .slice none 0 0] 25 (0, 0)) := by
    rw [← hW3]
    have := heap_alloc_new ((w.alloc (.cells #[.int .i64 6, .bool b, .int .i64 n, .string s, .slice pa m pc, .slice na q nc] 25)).alloc (.cells #[.string nm] 9)) (.cells #[.int .i64 0, .bool false, .int .i64 0, .string ⟨#[]⟩, .slice none 0 0, .slice none 0 0] 25)
    simpa using this
  have r1 : W3.cell? ⟨w.heap.size + 1, 0, none⟩ = some (.string nm) := by
    have h1 := heap_alloc_new (w.alloc (.cells #[.int .i64 6, .bool b, .int .i64 n, .string s, .slice pa m pc, .slice na q nc] 25)) (.cells #[.string nm] 9)
    have h2 := Below.heap_alloc ((w.alloc (.cells #[.int .i64 6, .bool b, .int .i64 n, .string s, .slice pa m pc, .slice na q nc] 25)).alloc (.cells #[.string nm] 9)) (.cells #[.int .i64 0, .bool false, .int .i64 0, .string ⟨#[]⟩, .slice none 0 0, .slice none 0 0] 25) (w.heap.size + 1) (by simp)
    rw [hW3] at h2
    exact cell_of_row W3 _ 0 _ _ _ (h2.trans (by simpa using h1))
  have HI : Hid (Calls Try.prog 61 #[.slice na q nc, .func (.func 62) #[] #[.pointer (some ⟨w.heap.size + 1, 0, none⟩)]] W3 fun e w' => e = .returned (.int .i64 (-1)) ∧ ∃ k, w' = W3.drewN k) := hidx W3 _ hb3 r1
  have HW : Hid (((w.alloc (.cells #[.int .i64 6, .bool b, .int .i64 n, .string s, .slice pa m pc, .slice na q nc] 25)).alloc (.cells #[.string nm] 9)).alloc (.cells #[.int .i64 0, .bool false, .int .i64 0, .string ⟨#[]⟩, .slice none 0 0, .slice none 0 0] 25) = W3) := hW3
  have HS3 : Hid (W3.heap.size = w.heap.size + 1 + 1 + 1) := hs3
  clear hW3 hs3 hidx r1
  go_enter Try.func28, Try.ntmps28
  go_wp2_with fail
  rw [HW.out]
  refine HI.out.mono ?_
  rintro e w0 ⟨rfl, k, rfl⟩
  go_wp2_with fail
  refine (hv _).mono ?_
  rintro e w1 ⟨rfl, hb1⟩
  replace hb1 : Below W3.heap.size W3 w1 := ⟨hb1.os, hb1.tape, hb1.output, hb1.size, hb1.block⟩
  have hs3 := HS3.out
  have hz1 := hb1.size
  have q2 := (hb1.block _ (by omega)).trans r2
  have b0 := cell_of_row w1 _ 0 _ _ _ q2
  have b1 := cell_of_row w1 _ 1 _ _ _ q2
  have b2 := cell_of_row w1 _ 2 _ _ _ q2
  have b3 := cell_of_row w1 _ 3 _ _ _ q2
  have b4 := cell_of_row w1 _ 4 _ _ _ q2
  have b5 := cell_of_row w1 _ 5 _ _ _ q2
  have y0 := frozen_of_row w1 _ 0 _ _ q2
  have y1 := frozen_of_row w1 _ 1 _ _ q2
  have y2 := frozen_of_row w1 _ 2 _ _ q2
  have y3 := frozen_of_row w1 _ 3 _ _ q2
  have y4 := frozen_of_row w1 _ 4 _ _ q2
  have y5 := frozen_of_row w1 _ 5 _ _ q2
  have hbb : Below w.heap.size w w1 := hb3.trans (hb1.mono (by omega))
  clear hs3 HW HS3
  go_wp2
  change bodyPost _ _ _ _ _ (set6 w1 (w.heap.size + 1 + 1) (.int .i64 0) (.bool false) (.int .i64 0) (.string ⟨#[]⟩) (.slice none 0 0) (.slice none 0 0))
  have hro := set6_row q2 (.int .i64 0) (.bool false) (.int .i64 0) (.string ⟨#[]⟩) (.slice none 0 0) (.slice none 0 0)
  have hof := set6_below hbb (w.heap.size + 1 + 1) (by omega) (.int .i64 0) (.bool false) (.int .i64 0) (.string ⟨#[]⟩) (.slice none 0 0) (.slice none 0 0)
  obtain ⟨wf, hwf⟩ : ∃ wf, set6 w1 (w.heap.size + 1 + 1) (.int .i64 0) (.bool false) (.int .i64 0) (.string ⟨#[]⟩) (.slice none 0 0) (.slice none 0 0) = wf := ⟨_, rfl⟩
  rw [hwf] at hro hof ⊢
  clear hwf
  have o0 := cell_of_row wf _ 0 _ _ _ hro
  have o1 := cell_of_row wf _ 1 _ _ _ hro
  have o2 := cell_of_row wf _ 2 _ _ _ hro
  have o3 := cell_of_row wf _ 3 _ _ _ hro
  have o4 := cell_of_row wf _ 4 _ _ _ hro
  have o5 := cell_of_row wf _ 5 _ _ _ hro
  exact bodyPost_ret (v := .agg #[.int .i64 0, .bool false, .int .i64 0, .string ⟨#[]⟩, .slice none 0 0, .slice none 0 0]) (by simp [results, Try.results28, go_sem, o0, o1, o2, o3, o4, o5]) rfl ⟨rfl, hof⟩
theorem get_both {B : Nat} {w : World} {b : Bool} {n : Int} {s : ByteArray} {m : Nat} {f : Nat → Tr} {q : Nat} {g : Nat → ByteArray} {x : Ad} (hL : Lies B w (.mk 6 b n s m f q g) x) (hB : B ≤ w.heap.size) (hqm : q ≤ m) (hq : q ≤ 64) (hsl : ∀ i, i < m → slimq (f i)) (nm : ByteArray) :
    Calls Try.prog 28 #[.agg #[.int .i64 6, .bool b, .int .i64 n, .string s, .slice x.pa m x.pc, .slice x.na q x.nc], .string nm] w fun e w' => ((∃ i, i < q ∧ g i = nm ∧ (∀ j, j < i → g j ≠ nm) ∧ ∃ A : Ad, e = .returned (.agg #[.int .i64 (f i).k, .bool (f i).b, .int .i64 (f i).n, .string (f i).s, .slice A.pa (f i).m A.pc, .slice A.na (f i).q A.nc]) ∧ LiesS (fun k => w.heap.size ≤ k ∧ k < w'.heap.size) w' (f i) A) ∨ ((∀ j, j < q → g j ≠ nm) ∧ e = .returned (.agg #[.int .i64 0, .bool false, .int .i64 0, .string ⟨#[]⟩, .slice none 0 0, .slice none 0 0]))) ∧ Below w.heap.size w w' := by
  rcases first_or (q := q) (g := g) (nm := nm) with ⟨i, h1, h2, h3⟩ | h
  · refine (get_at hL hB nm i (by omega) hq (by omega) (hsl i (by omega)) (idx_hit h1 h2 h3)).mono ?_
    rintro e w' ⟨A, he, hA, hb⟩
    exact ⟨Or.inl ⟨i, h1, h2, h3, A, he, hA⟩, hb⟩
  · have hN : Names B w q g x.na x.nc := hL.lims.2.2.2.2
    refine (get_none (fun W z hb hz => ?_)).mono ?_
    · by_cases hq0 : q = 0
      · subst hq0
        exact idx_nil _ _ _ _
      · obtain ⟨b, o, h1, h2, h3⟩ := hN.2.2.2 (by omega)
        rw [h1]
        exact idx_get nm (-1) hq hz (fun i hi => cell_later (h3 i hi) h2 (hb.mono hB)) (idx_miss h)
    · rintro e w' ⟨he, hb⟩
      exact ⟨Or.inr ⟨h, he⟩, hb⟩
end Go.Proofs.Ytjmjlijmeahmfaa
