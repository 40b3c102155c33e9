/- A struct there and back (awake). -/
import Derived.Test.YtjmjlijmeahmfaaAwk0
namespace Go.Proofs.Ytjmjlijmeahmfaa
open Go.RowKit
theorem slimq_leaf (k : Int) (b : Bool) (n : Int) (s : ByteArray) : slimq (leafT k b n s) := ⟨Nat.zero_le _, Nat.zero_le _, fun i hi => absurd hi (Nat.not_lt_zero i)⟩
theorem fld0 (a b c d e f : Value) (W : World) : (Instr.field 25 (.agg #[a, b, c, d, e, f]) 0).run Try.prog W = .ok a W := by kernel_rfl
theorem fld1 (a b c d e f : Value) (W : World) : (Instr.field 25 (.agg #[a, b, c, d, e, f]) 1).run Try.prog W = .ok b W := by kernel_rfl
theorem fld2 (a b c d e f : Value) (W : World) : (Instr.field 25 (.agg #[a, b, c, d, e, f]) 2).run Try.prog W = .ok c W := by kernel_rfl
theorem fld3 (a b c d e f : Value) (W : World) : (Instr.field 25 (.agg #[a, b, c, d, e, f]) 3).run Try.prog W = .ok d W := by kernel_rfl
theorem one_max : 1 ≤ maxLen := by unfold maxLen; omega
theorem small_tA : small tA := ⟨by decide, fun i hi => by
  have : i = 0 ∨ i = 1 := by omega
  rcases this with rfl | rfl
  · exact small_leaf (by decide)
  · exact small_leaf (by decide)⟩
theorem decode_A (W : World) : Calls Try.prog 15 #[.string bA] W fun r w' => ∃ A : Ad, r = .returned (.tuple #[.agg #[.int .i64 6, .bool false, .int .i64 0, .string ⟨#[]⟩, .slice A.pa 2 A.pc, .slice A.na 2 A.nc], .int .i64 0]) ∧ LiesS (fun k => W.heap.size ≤ k ∧ k < w'.heap.size) w' (.mk 6 false 0 ⟨#[]⟩ 2 tW.f 2 tW.g) A ∧ Below W.heap.size W w' := by
  have h := decode_any bA (by decide) W
  rw [decA, if_pos rfl, takeA2.1] at h
  exact h
theorem same_A {B : Nat} {W : World} {x y : Ad} (hL : Lies B W tA x) (hL' : Lies B W (.mk 6 false 0 ⟨#[]⟩ 2 tW.f 2 tW.g) y) (hB : B ≤ W.heap.size) :
    Calls Try.prog 17 #[.agg #[.int .i64 6, .bool false, .int .i64 0, .string ⟨#[]⟩, .slice x.pa 2 x.pc, .slice x.na 2 x.nc], .agg #[.int .i64 6, .bool false, .int .i64 0, .string ⟨#[]⟩, .slice y.pa 2 y.pc, .slice y.na 2 y.nc]] W fun e w' => e = .returned (.bool true) ∧ Below W.heap.size W w' := by
  have h := same_all tA (.mk 6 false 0 ⟨#[]⟩ 2 tW.f 2 tW.g) B W x y hL hL' hB
  have h2 : cmpT tA (.mk 6 false 0 ⟨#[]⟩ 2 tW.f 2 tW.g) = 0 := by
    have := sameA
    rw [show tW = .mk 6 false 0 ⟨#[]⟩ 2 tW.f 2 tW.g from takeA2.1] at this
    exact this
  rw [h2] at h
  exact h
theorem get_A {B : Nat} {W : World} {x : Ad} (hL : Lies B W (.mk 6 false 0 ⟨#[]⟩ 2 tW.f 2 tW.g) x) (hB : B ≤ W.heap.size) :
    Calls Try.prog 28 #[.agg #[.int .i64 6, .bool false, .int .i64 0, .string ⟨#[]⟩, .slice x.pa 2 x.pc, .slice x.na 2 x.nc], .string ⟨#[97]⟩] W fun e w' => ∃ A : Ad, e = .returned (.agg #[.int .i64 3, .bool false, .int .i64 0, .string ⟨#[120]⟩, .slice A.pa 0 A.pc, .slice A.na 0 A.nc]) ∧ Below W.heap.size W w' := by
  have h := get_at hL hB ⟨#[97]⟩ 0 (by decide) (by decide) (by decide) (by rw [show tW.f 0 = leafT 3 false 0 ⟨#[120]⟩ from takeA2.2.1]; exact slimq_leaf _ _ _ _) idxA
  rw [show tW.f 0 = leafT 3 false 0 ⟨#[120]⟩ from takeA2.2.1] at h
  refine h.mono ?_
  rintro e w' ⟨A, h1, _, h3⟩
  exact ⟨A, h1, h3⟩
theorem get_B {B : Nat} {W : World} {x : Ad} (hL : Lies B W (.mk 6 false 0 ⟨#[]⟩ 2 tW.f 2 tW.g) x) (hB : B ≤ W.heap.size) :
    Calls Try.prog 28 #[.agg #[.int .i64 6, .bool false, .int .i64 0, .string ⟨#[]⟩, .slice x.pa 2 x.pc, .slice x.na 2 x.nc], .string ⟨#[98]⟩] W fun e w' => ∃ A : Ad, e = .returned (.agg #[.int .i64 2, .bool false, .int .i64 1, .string ⟨#[]⟩, .slice A.pa 0 A.pc, .slice A.na 0 A.nc]) ∧ Below W.heap.size W w' := by
  have h := get_at hL hB ⟨#[98]⟩ 1 (by decide) (by decide) (by decide) (by rw [show tW.f 1 = leafT 2 false 1 ⟨#[]⟩ from takeA2.2.2.1]; exact slimq_leaf _ _ _ _) idxB
  rw [show tW.f 1 = leafT 2 false 1 ⟨#[]⟩ from takeA2.2.2.1] at h
  refine h.mono ?_
  rintro e w' ⟨A, h1, _, h3⟩
  exact ⟨A, h1, h3⟩
set_option maxRecDepth 100000 in
set_option maxHeartbeats 8000000 in
theorem awake_any (w : World) : Calls Try.prog 10 #[] w fun e w' => e = .returned (.bool true) ∧ Below w.heap.size w w' := by
  have p2 := fld2
  have p3 := fld3
  go_enter Try.func10, Try.ntmps10
  go_wp2_with fail
  refine (vint 1 _).mono ?_
  rintro e w1 ⟨he, hb1⟩
  replace he : e = .returned (.agg #[.int .i64 2, .bool false, .int .i64 1, .string ⟨#[]⟩, .slice none 0 0, .slice none 0 0]) := he
  subst he
  have n1 := (hb1.block w.heap.size (by simp)).trans (heap_alloc_new w _)
  have hs1 : w.heap.size + 1 ≤ w1.heap.size := by have := hb1.size; simpa using this
  have B1 : Below w.heap.size w w1 := ((Below.refl _ w).alloc (Nat.le_refl _) _).trans (hb1.mono (by simp))
  clear hb1
  go_wp2_with fail
  refine (vstr ⟨#[120]⟩ _).mono ?_
  rintro e w2 ⟨he, hb2⟩
  replace he : e = .returned (.agg #[.int .i64 3, .bool false, .int .i64 0, .string ⟨#[120]⟩, .slice none 0 0, .slice none 0 0]) := he
  subst he
  have n2 := (hb2.block w.heap.size (by omega)).trans n1
  have hs2 : w.heap.size + 1 ≤ w2.heap.size := by have := hb2.size; omega
  have B2 : Below w.heap.size w w2 := B1.trans (hb2.mono (by omega))
  clear hb2 n1 hs1 B1
  go_wp2_with fail
  obtain ⟨W3, hW3⟩ : ∃ W3, w2.alloc (.cells #[.int .i64 2, .bool false, .int .i64 1, .string ⟨#[]⟩, .slice none 0 0, .slice none 0 0, .int .i64 3, .bool false, .int .i64 0, .string ⟨#[120]⟩, .slice none 0 0, .slice none 0 0] 25) = W3 := ⟨_, rfl⟩
  have r3 : W3.heap[w2.heap.size]? = some (.cells #[.int .i64 2, .bool false, .int .i64 1, .string ⟨#[]⟩, .slice none 0 0, .slice none 0 0, .int .i64 3, .bool false, .int .i64 0, .string ⟨#[120]⟩, .slice none 0 0, .slice none 0 0] 25 (0, 0)) := by rw [← hW3]; exact heap_alloc_new _ _
  have b3 : Below w2.heap.size w2 W3 := by rw [← hW3]; exact (Below.refl _ _).alloc (Nat.le_refl _) _
  have hs3 : W3.heap.size = w2.heap.size + 1 := by rw [← hW3]; simp
  have n3 := (b3.block w.heap.size (by omega)).trans n2
  have B3 : Below w.heap.size w W3 := B2.trans (b3.mono (by omega))
  rw [hW3]
  clear hW3 b3 n2 B2
  have hst := struct_any (B := w2.heap.size + 1) (w := W3) (q := 2) (nc := 2) (nb := w.heap.size) (no := 0) (g := gA) (m := 2) (pc := 2) (pb := w2.heap.size) (po := 0) (f := fA) (A := fun _ => ⟨none, 0, none, 0⟩) 1 (by decide) (by decide) (by omega) (by omega)
    (fun i hi => by
      have : i = 0 ∨ i = 1 := by omega
      rcases this with rfl | rfl
      · exact cell_of_row W3 _ 0 _ _ _ n3
      · exact cell_of_row W3 _ 1 _ _ _ n3)
    (fun i hi => by
      have : i = 0 ∨ i = 1 := by omega
      rcases this with rfl | rfl
      · exact one_max
      · exact one_max)
    (by omega)
    (fun i hi => by
      have : i = 0 ∨ i = 1 := by omega
      rcases this with rfl | rfl
      · exact ⟨cell_of_row W3 _ 0 _ _ _ r3, cell_of_row W3 _ 1 _ _ _ r3, cell_of_row W3 _ 2 _ _ _ r3, cell_of_row W3 _ 3 _ _ _ r3, cell_of_row W3 _ 4 _ _ _ r3, cell_of_row W3 _ 5 _ _ _ r3⟩
      · exact ⟨cell_of_row W3 _ 6 _ _ _ r3, cell_of_row W3 _ 7 _ _ _ r3, cell_of_row W3 _ 8 _ _ _ r3, cell_of_row W3 _ 9 _ _ _ r3, cell_of_row W3 _ 10 _ _ _ r3, cell_of_row W3 _ 11 _ _ _ r3⟩)
    (fun i hi => by
      have : i = 0 ∨ i = 1 := by omega
      rcases this with rfl | rfl
      · exact lies_leaf (by decide) (by decide) (Nat.zero_le _)
      · exact lies_leaf (by decide) (by decide) one_max)
    (fun i hi => by
      have : i = 0 ∨ i = 1 := by omega
      rcases this with rfl | rfl
      · exact slimq_leaf _ _ _ _
      · exact slimq_leaf _ _ _ _)
  rw [structA] at hst
  refine hst.mono ?_
  clear hst n3 r3
  rintro e w4 ⟨A1, he, hL4, hb4⟩
  replace he : e = .returned (.agg #[.int .i64 6, .bool false, .int .i64 0, .string ⟨#[]⟩, .slice A1.pa 2 A1.pc, .slice A1.na 2 A1.nc]) := he
  subst he
  have hs4 := hb4.size
  have B4 : Below w.heap.size w w4 := B3.trans (hb4.mono (by omega))
  have hL4' : Lies w4.heap.size w4 tA A1 := hL4.up (fun k hk => hk.2)
  clear hL4 hb4 B3
  have henc : ∀ W : World, Below w4.heap.size w4 W → Calls Try.prog 14 #[.agg #[.int .i64 6, .bool false, .int .i64 0, .string ⟨#[]⟩, .slice A1.pa 2 A1.pc, .slice A1.na 2 A1.nc]] W fun e w' => e = .returned (.tuple #[.string bA, .int .i64 0]) ∧ Below W.heap.size W w' := fun W hb => by
    have h1 : encT tA = bA := encA rfl rfl rfl rfl
    have h2 : checkT tA = 0 := checkA rfl rfl rfl rfl
    have h3 := encode_any (hL4'.later hb) hb.size small_tA
    rw [h1, h2] at h3
    exact h3
  have HL4 : Hid (Lies w4.heap.size w4 tA A1) := hL4'
  clear hL4'
  go_wp2_with fail
  have q5 := heap_alloc_new w4 (.cells #[.int .i64 6, .bool false, .int .i64 0, .string ⟨#[]⟩, .slice A1.pa 2 A1.pc, .slice A1.na 2 A1.nc] 25)
  have b45 : Below w4.heap.size w4 (w4.alloc (.cells #[.int .i64 6, .bool false, .int .i64 0, .string ⟨#[]⟩, .slice A1.pa 2 A1.pc, .slice A1.na 2 A1.nc] 25)) := (Below.refl _ w4).alloc (Nat.le_refl _) _
  refine (henc _ b45).mono ?_
  rintro e w5 ⟨rfl, hb5⟩
  have hs5 : w4.heap.size + 1 ≤ w5.heap.size := by have := hb5.size; simpa using this
  have v5 := (hb5.block w4.heap.size (by simp)).trans q5
  have B45 : Below w4.heap.size w4 w5 := b45.trans (hb5.mono (by simp))
  clear q5 b45 hb5 henc
  go_wp2_with fail
  refine (decode_A w5).mono ?_
  rintro e w6 ⟨A2, rfl, hL6, hb6⟩
  have hs6 := hb6.size
  have v6 := (hb6.block w4.heap.size (by omega)).trans v5
  have B46 : Below w4.heap.size w4 w6 := B45.trans (hb6.mono (by omega))
  have hL6' : Lies w6.heap.size w6 (.mk 6 false 0 ⟨#[]⟩ 2 tW.f 2 tW.g) A2 := hL6.up (fun k hk => hk.2)
  have a0 := cell_of_row w6 _ 0 _ _ _ v6
  have a1 := cell_of_row w6 _ 1 _ _ _ v6
  have a2 := cell_of_row w6 _ 2 _ _ _ v6
  have a3 := cell_of_row w6 _ 3 _ _ _ v6
  have a4 := cell_of_row w6 _ 4 _ _ _ v6
  have a5 := cell_of_row w6 _ 5 _ _ _ v6
  have hl6 := lt_of_row v6
  have hal : ∀ j o u, w6.cell? ⟨w4.heap.size, j, none⟩ = some u → (w6.alloc o).cell? ⟨w4.heap.size, j, none⟩ = some u := fun j o u hu => cell_kept hu (Below.heap_alloc w6 o _ hl6)
  have e0 := fun o => hal 0 o _ a0
  have e1 := fun o => hal 1 o _ a1
  have e2 := fun o => hal 2 o _ a2
  have e3 := fun o => hal 3 o _ a3
  have e4 := fun o => hal 4 o _ a4
  have e5 := fun o => hal 5 o _ a5
  have HL6 : Hid (Lies w6.heap.size w6 (.mk 6 false 0 ⟨#[]⟩ 2 tW.f 2 tW.g) A2) := hL6'
  clear hL6 hL6' hb6 hal v5 B45
  go_wp2_with fail
  obtain ⟨W7, hW7⟩ : ∃ W7, w6.alloc (.cells #[.int .i64 6, .bool false, .int .i64 0, .string ⟨#[]⟩, .slice A2.pa 2 A2.pc, .slice A2.na 2 A2.nc] 25) = W7 := ⟨_, rfl⟩
  have q7 : W7.heap[w6.heap.size]? = some (.cells #[.int .i64 6, .bool false, .int .i64 0, .string ⟨#[]⟩, .slice A2.pa 2 A2.pc, .slice A2.na 2 A2.nc] 25 (0, 0)) := by rw [← hW7]; exact heap_alloc_new _ _
  have b67 : Below w6.heap.size w6 W7 := by rw [← hW7]; exact (Below.refl _ _).alloc (Nat.le_refl _) _
  have hs7 : W7.heap.size = w6.heap.size + 1 := by rw [← hW7]; simp
  rw [hW7]
  clear hW7 e0 e1 e2 e3 e4 e5 a0 a1 a2 a3 a4 a5 v6
  have hLA : Lies w6.heap.size W7 tA A1 := ((HL4.out.later B46).up (by omega)).later b67
  have hLW : Lies w6.heap.size W7 (.mk 6 false 0 ⟨#[]⟩ 2 tW.f 2 tW.g) A2 := HL6.out.later b67
  refine (same_A hLA hLW (by omega)).mono ?_
  rintro e w8 ⟨rfl, hb8⟩
  have hs8 := hb8.size
  have q8 := (hb8.block w6.heap.size (by omega)).trans q7
  have hLW8 : Lies w6.heap.size w8 (.mk 6 false 0 ⟨#[]⟩ 2 tW.f 2 tW.g) A2 := hLW.later (hb8.mono (by omega))
  have a0 := cell_of_row w8 _ 0 _ _ _ q8
  have a1 := cell_of_row w8 _ 1 _ _ _ q8
  have a2 := cell_of_row w8 _ 2 _ _ _ q8
  have a3 := cell_of_row w8 _ 3 _ _ _ q8
  have a4 := cell_of_row w8 _ 4 _ _ _ q8
  have a5 := cell_of_row w8 _ 5 _ _ _ q8
  have B8 : Below w.heap.size w w8 := B4.trans ((B46.trans ((b67.trans (hb8.mono (by omega))).mono (by omega))).mono (by omega))
  have HL8 : Hid (Lies w6.heap.size w8 (.mk 6 false 0 ⟨#[]⟩ 2 tW.f 2 tW.g) A2) := hLW8
  clear hLA hLW hLW8 hb8 q7 b67 B4 B46
  go_wp2_with fail
  refine (get_A HL8.out (by omega)).mono ?_
  rintro e w9 ⟨A9, rfl, hb9⟩
  have hs9 := hb9.size
  have q9 := (hb9.block w6.heap.size (by omega)).trans q8
  have HL9 : Hid (Lies w6.heap.size w9 (.mk 6 false 0 ⟨#[]⟩ 2 tW.f 2 tW.g) A2) := HL8.out.later (hb9.mono (by omega))
  have B9 : Below w.heap.size w w9 := B8.trans (hb9.mono (by omega))
  clear a0 a1 a2 a3 a4 a5 hb9 B8 q8
  have a0 := cell_of_row w9 _ 0 _ _ _ q9
  have a1 := cell_of_row w9 _ 1 _ _ _ q9
  have a2 := cell_of_row w9 _ 2 _ _ _ q9
  have a3 := cell_of_row w9 _ 3 _ _ _ q9
  have a4 := cell_of_row w9 _ 4 _ _ _ q9
  have a5 := cell_of_row w9 _ 5 _ _ _ q9
  go_wp2_with fail
  refine (get_B HL9.out (by omega)).mono ?_
  rintro e w10 ⟨A10, rfl, hb10⟩
  have B10 : Below w.heap.size w w10 := B9.trans (hb10.mono (by omega))
  clear a0 a1 a2 a3 a4 a5 hb10 B9 q9
  go_wp2
  go_ret
  exact ⟨rfl, B10⟩
end Go.Proofs.Ytjmjlijmeahmfaa
