/- ValueReads called: true, and nothing that was there is changed. -/
import Derived.Test.YtjmjlijmeahmfaaRde
import Derived.Test.YtjmjlijmeahmfaaAwk
namespace Go.Proofs.Ytjmjlijmeahmfaa
open Go.RowKit
structure Rd (y : ByteArray) (F : Int) (t : Tr) : Prop where
  d : ∀ W : World, Calls Try.prog 15 #[.string y] W fun r w' => ∃ A1 : Ad, r = .returned (.tuple #[.agg #[.int .i64 t.k, .bool t.b, .int .i64 t.n, .string t.s, .slice A1.pa t.m A1.pc, .slice A1.na t.q A1.nc], .int .i64 F]) ∧ Lies w'.heap.size w' t A1 ∧ Below W.heap.size W w'
  rd : ∀ W : World, Calls Try.prog 18 #[.string y] W fun r w' => ∃ (A2 : Ad) (u : Tr), r = .returned (.tuple #[.agg #[.int .i64 u.k, .bool u.b, .int .i64 u.n, .string u.s, .slice A2.pa u.m A2.pc, .slice A2.na u.q A2.nc], .int .i64 F]) ∧ LiesS (fun k => W.heap.size ≤ k ∧ k < w'.heap.size) w' u A2 ∧ (F = 0 → u = t) ∧ Below W.heap.size W w'
  ok : F = 0 → small t ∧ encT t = y ∧ checkT t = 0 ∧ soundT t 1 = 0 ∧ (⟨(bytesT t).toArray⟩ : ByteArray) = y
  no : F ≠ 0 → t = leafT 0 false 0 ⟨#[]⟩
theorem rd_of {y : ByteArray} (hy : y.size ≤ 1500) : ∃ F t, Rd y F t := by
  refine ⟨decE y, if decE y = 0 then (takeA y 8 0 0).t else leafT 0 false 0 ⟨#[]⟩, ?_, ?_, ?_, ?_⟩
  · intro W
    refine (decode_any y (by omega) W).mono ?_
    rintro e w' ⟨A, he, hL, hb⟩
    exact ⟨A, he, hL.up (fun k hk => hk.2), hb⟩
  · intro W
    refine (rdecode_any (s := y) (by omega) W).mono ?_
    rintro e w' ⟨A, u, he, hL, hu, hb⟩
    exact ⟨A, u, he, hL, fun h => by rw [if_pos h]; exact hu h, hb⟩
  · intro h
    rw [if_pos h]
    obtain ⟨h1, h2, h3, h4⟩ := enc_dec h
    exact ⟨small_take (by omega) 8 0 0, h4, h1, h2, h3⟩
  · intro h
    rw [if_neg h]
set_option maxRecDepth 100000 in
set_option maxHeartbeats 8000000 in
theorem reads_small {y : ByteArray} (hy : y.size ≤ 1500) (w : World) :
    Calls Try.prog 5 #[.string y] w fun e w' => e = .returned (.bool true) ∧ Below w.heap.size w w' := by
  obtain ⟨F, t, hRd⟩ := rd_of hy
  have HD : Hid (∀ W : World, Calls Try.prog 15 #[.string y] W fun r w' => ∃ A1 : Ad, r = .returned (.tuple #[.agg #[.int .i64 t.k, .bool t.b, .int .i64 t.n, .string t.s, .slice A1.pa t.m A1.pc, .slice A1.na t.q A1.nc], .int .i64 F]) ∧ Lies w'.heap.size w' t A1 ∧ Below W.heap.size W w') := hRd.d
  have HRD : Hid (∀ W : World, Calls Try.prog 18 #[.string y] W fun r w' => ∃ (A2 : Ad) (u : Tr), r = .returned (.tuple #[.agg #[.int .i64 u.k, .bool u.b, .int .i64 u.n, .string u.s, .slice A2.pa u.m A2.pc, .slice A2.na u.q A2.nc], .int .i64 F]) ∧ LiesS (fun k => W.heap.size ≤ k ∧ k < w'.heap.size) w' u A2 ∧ (F = 0 → u = t) ∧ Below W.heap.size W w') := hRd.rd
  have HOK : Hid (F = 0 → small t ∧ encT t = y ∧ checkT t = 0 ∧ soundT t 1 = 0 ∧ (⟨(bytesT t).toArray⟩ : ByteArray) = y) := hRd.ok
  have HNO : Hid (F ≠ 0 → t = leafT 0 false 0 ⟨#[]⟩) := hRd.no
  clear hRd
  have hy' : ¬ (1500 : Int) < (y.size : Int) := by omega
  go_enter Try.func5, Try.ntmps5
  go_wp2_with fail
  refine (HD.out _).mono ?_
  rintro e w1 ⟨A1, rfl, hL1, hb1⟩
  have hs1 := hb1.size
  go_wp2_with fail
  obtain ⟨W2, hW2⟩ : ∃ W2, w1.alloc (.cells #[.int .i64 t.k, .bool t.b, .int .i64 t.n, .string t.s, .slice A1.pa t.m A1.pc, .slice A1.na t.q A1.nc] 25) = W2 := ⟨_, rfl⟩
  have r2 : W2.heap[w1.heap.size]? = some (.cells #[.int .i64 t.k, .bool t.b, .int .i64 t.n, .string t.s, .slice A1.pa t.m A1.pc, .slice A1.na t.q A1.nc] 25 (0, 0)) := by rw [← hW2]; exact heap_alloc_new _ _
  have b12 : Below w1.heap.size w1 W2 := by rw [← hW2]; exact (Below.refl _ _).alloc (Nat.le_refl _) _
  have hs2 : W2.heap.size = w1.heap.size + 1 := by rw [← hW2]; simp
  have B2 : Below w.heap.size w W2 := hb1.trans (b12.mono (by omega))
  have HL2 : Hid (Lies w1.heap.size W2 t A1) := Lies.later b12 hL1
  rw [hW2]
  clear hW2 b12 hL1 hb1
  refine (HRD.out _).mono ?_
  rintro e w3 ⟨A2, u, rfl, hL3, hu, hb3⟩
  have hs3 := hb3.size
  have r3 := (hb3.block w1.heap.size (by omega)).trans r2
  have B3 : Below w.heap.size w w3 := B2.trans (hb3.mono (by omega))
  have HL3 : Hid (Lies w1.heap.size w3 t A1) := HL2.out.later (hb3.mono (by omega))
  have HU3 : Hid (Lies w3.heap.size w3 u A2) := LiesS.up (fun k hk => hk.2) hL3
  have HUT : Hid (F = 0 → u = t) := hu
  clear hb3 hL3 HL2 r2 B2 hu
  go_wp2_with fail
  obtain ⟨W4, hW4⟩ : ∃ W4, w3.alloc (.cells #[.int .i64 u.k, .bool u.b, .int .i64 u.n, .string u.s, .slice A2.pa u.m A2.pc, .slice A2.na u.q A2.nc] 33) = W4 := ⟨_, rfl⟩
  have q4 : W4.heap[w3.heap.size]? = some (.cells #[.int .i64 u.k, .bool u.b, .int .i64 u.n, .string u.s, .slice A2.pa u.m A2.pc, .slice A2.na u.q A2.nc] 33 (0, 0)) := by rw [← hW4]; exact heap_alloc_new _ _
  have b34 : Below w3.heap.size w3 W4 := by rw [← hW4]; exact (Below.refl _ _).alloc (Nat.le_refl _) _
  have hs4 : W4.heap.size = w3.heap.size + 1 := by rw [← hW4]; simp
  have r4 := (b34.block w1.heap.size (by omega)).trans r3
  have B4 : Below w.heap.size w W4 := B3.trans (b34.mono (by omega))
  have HL4 : Hid (Lies w1.heap.size W4 t A1) := HL3.out.later (b34.mono (by omega))
  have HU4 : Hid (Lies w3.heap.size W4 u A2) := HU3.out.later b34
  rw [hW4]
  clear hW4 b34 HL3 HU3 r3 B3
  refine (awake_any _).mono ?_
  rintro e w5 ⟨rfl, hb5⟩
  have hs5 := hb5.size
  have r5 := (hb5.block w1.heap.size (by omega)).trans r4
  have q5 := (hb5.block w3.heap.size (by omega)).trans q4
  have B5 : Below w.heap.size w w5 := B4.trans (hb5.mono (by omega))
  have HL5 : Hid (Lies w1.heap.size w5 t A1) := HL4.out.later (hb5.mono (by omega))
  have HU5 : Hid (Lies w3.heap.size w5 u A2) := HU4.out.later (hb5.mono (by omega))
  clear hb5 r4 q4 B4 HL4 HU4
  have a0 := cell_of_row w5 _ 0 _ _ _ r5
  have a1 := cell_of_row w5 _ 1 _ _ _ r5
  have a2 := cell_of_row w5 _ 2 _ _ _ r5
  have a3 := cell_of_row w5 _ 3 _ _ _ r5
  have a4 := cell_of_row w5 _ 4 _ _ _ r5
  have a5 := cell_of_row w5 _ 5 _ _ _ r5
  by_cases h0 : F = 0
  · subst h0
    have HU0 : Hid (u = t) := HUT.out rfl
    have HO0 : Hid (small t ∧ encT t = y ∧ checkT t = 0 ∧ soundT t 1 = 0 ∧ (⟨(bytesT t).toArray⟩ : ByteArray) = y) := HOK.out rfl
    clear HUT HOK HNO
    have hen := encode_any HL5.out (by omega) HO0.out.1
    rw [HO0.out.2.1, HO0.out.2.2.1] at hen
    replace hen : Calls Try.prog 14 #[.agg #[.int .i64 t.k, .bool t.b, .int .i64 t.n, .string t.s, .slice A1.pa t.m A1.pc, .slice A1.na t.q A1.nc]] w5 fun e w' => e = .returned (.tuple #[.string y, .int .i64 0]) ∧ Below w5.heap.size w5 w' := hen
    go_wp2_with fail
    refine hen.mono ?_
    rintro e w6 ⟨rfl, hb6⟩
    have hs6 := hb6.size
    have q6 := (hb6.block w3.heap.size (by omega)).trans q5
    have B6 : Below w.heap.size w w6 := B5.trans (hb6.mono (by omega))
    have HU6 : Hid (Lies w3.heap.size w6 u A2) := HU5.out.later (hb6.mono (by omega))
    clear hb6 hen q5 B5 HU5 a0 a1 a2 a3 a4 a5
    have hby := rval_any u 1 (by decide) (by rw [HU0.out]; exact HO0.out.2.2.2.1) (by rw [HU0.out]; exact HO0.out.1) _ _ _ HU6.out (by omega)
    have hyy : (⟨(bytesT u).toArray⟩ : ByteArray) = y := by rw [HU0.out]; exact HO0.out.2.2.2.2
    rw [hyy] at hby
    clear hyy
    replace hby : Calls Try.prog 16 #[.agg #[.int .i64 u.k, .bool u.b, .int .i64 u.n, .string u.s, .slice A2.pa u.m A2.pc, .slice A2.na u.q A2.nc]] w6 fun e w' => e = .returned (.string y) ∧ Below w6.heap.size w6 w' := hby
    have d0 := cell_of_row w6 _ 0 _ _ _ q6
    have d1 := cell_of_row w6 _ 1 _ _ _ q6
    have d2 := cell_of_row w6 _ 2 _ _ _ q6
    have d3 := cell_of_row w6 _ 3 _ _ _ q6
    have d4 := cell_of_row w6 _ 4 _ _ _ q6
    have d5 := cell_of_row w6 _ 5 _ _ _ q6
    go_wp2_with fail
    refine hby.mono ?_
    rintro e w7 ⟨rfl, hb7⟩
    have B7 : Below w.heap.size w w7 := B6.trans (hb7.mono (by omega))
    clear d0 d1 d2 d3 d4 d5 hb7 hby
    go_wp2
    go_ret
    exact ⟨rfl, B7⟩
  · have h1 : (F != 0) = true := by simpa using h0
    have ht := HNO.out h0
    have tk0 : t.k = 0 := by rw [ht]; rfl
    have tm0 : t.m = 0 := by rw [ht]; rfl
    have ts0 : t.s = ⟨#[]⟩ := by rw [ht]; rfl
    clear ht
    rw [tk0] at a0
    rw [ts0] at a3
    rw [tm0] at a4
    go_wp2
    go_ret
    exact ⟨rfl, B5⟩
set_option maxRecDepth 100000 in
set_option maxHeartbeats 8000000 in
theorem reads_big {s : ByteArray} (h15 : 1500 < s.size) (w : World) :
    Calls Try.prog 5 #[.string s] w fun e w' => e = .returned (.bool true) ∧ Below w.heap.size w w' := by
  obtain ⟨y, hyy⟩ : ∃ y, s.extract 0 1500 = y := ⟨_, rfl⟩
  have hy : y.size ≤ 1500 := by rw [← hyy, ByteArray.size_extract]; omega
  obtain ⟨F, t, hRd⟩ := rd_of hy
  have HD : Hid (∀ W : World, Calls Try.prog 15 #[.string y] W fun r w' => ∃ A1 : Ad, r = .returned (.tuple #[.agg #[.int .i64 t.k, .bool t.b, .int .i64 t.n, .string t.s, .slice A1.pa t.m A1.pc, .slice A1.na t.q A1.nc], .int .i64 F]) ∧ Lies w'.heap.size w' t A1 ∧ Below W.heap.size W w') := hRd.d
  have HRD : Hid (∀ W : World, Calls Try.prog 18 #[.string y] W fun r w' => ∃ (A2 : Ad) (u : Tr), r = .returned (.tuple #[.agg #[.int .i64 u.k, .bool u.b, .int .i64 u.n, .string u.s, .slice A2.pa u.m A2.pc, .slice A2.na u.q A2.nc], .int .i64 F]) ∧ LiesS (fun k => W.heap.size ≤ k ∧ k < w'.heap.size) w' u A2 ∧ (F = 0 → u = t) ∧ Below W.heap.size W w') := hRd.rd
  have HOK : Hid (F = 0 → small t ∧ encT t = y ∧ checkT t = 0 ∧ soundT t 1 = 0 ∧ (⟨(bytesT t).toArray⟩ : ByteArray) = y) := hRd.ok
  have HNO : Hid (F ≠ 0 → t = leafT 0 false 0 ⟨#[]⟩) := hRd.no
  clear hRd
  have h15' : (1500 : Int) < (s.size : Int) := by omega
  have h15'' : (1500 : Int) ≤ (s.size : Int) := by omega
  go_enter Try.func5, Try.ntmps5
  go_wp2_with fail
  refine (HD.out _).mono ?_
  rintro e w1 ⟨A1, rfl, hL1, hb1⟩
  have hs1 := hb1.size
  go_wp2_with fail
  obtain ⟨W2, hW2⟩ : ∃ W2, w1.alloc (.cells #[.int .i64 t.k, .bool t.b, .int .i64 t.n, .string t.s, .slice A1.pa t.m A1.pc, .slice A1.na t.q A1.nc] 25) = W2 := ⟨_, rfl⟩
  have r2 : W2.heap[w1.heap.size]? = some (.cells #[.int .i64 t.k, .bool t.b, .int .i64 t.n, .string t.s, .slice A1.pa t.m A1.pc, .slice A1.na t.q A1.nc] 25 (0, 0)) := by rw [← hW2]; exact heap_alloc_new _ _
  have b12 : Below w1.heap.size w1 W2 := by rw [← hW2]; exact (Below.refl _ _).alloc (Nat.le_refl _) _
  have hs2 : W2.heap.size = w1.heap.size + 1 := by rw [← hW2]; simp
  have B2 : Below w.heap.size w W2 := hb1.trans (b12.mono (by omega))
  have HL2 : Hid (Lies w1.heap.size W2 t A1) := Lies.later b12 hL1
  rw [hW2]
  clear hW2 b12 hL1 hb1
  refine (HRD.out _).mono ?_
  rintro e w3 ⟨A2, u, rfl, hL3, hu, hb3⟩
  have hs3 := hb3.size
  have r3 := (hb3.block w1.heap.size (by omega)).trans r2
  have B3 : Below w.heap.size w w3 := B2.trans (hb3.mono (by omega))
  have HL3 : Hid (Lies w1.heap.size w3 t A1) := HL2.out.later (hb3.mono (by omega))
  have HU3 : Hid (Lies w3.heap.size w3 u A2) := LiesS.up (fun k hk => hk.2) hL3
  have HUT : Hid (F = 0 → u = t) := hu
  clear hb3 hL3 HL2 r2 B2 hu
  go_wp2_with fail
  obtain ⟨W4, hW4⟩ : ∃ W4, w3.alloc (.cells #[.int .i64 u.k, .bool u.b, .int .i64 u.n, .string u.s, .slice A2.pa u.m A2.pc, .slice A2.na u.q A2.nc] 33) = W4 := ⟨_, rfl⟩
  have q4 : W4.heap[w3.heap.size]? = some (.cells #[.int .i64 u.k, .bool u.b, .int .i64 u.n, .string u.s, .slice A2.pa u.m A2.pc, .slice A2.na u.q A2.nc] 33 (0, 0)) := by rw [← hW4]; exact heap_alloc_new _ _
  have b34 : Below w3.heap.size w3 W4 := by rw [← hW4]; exact (Below.refl _ _).alloc (Nat.le_refl _) _
  have hs4 : W4.heap.size = w3.heap.size + 1 := by rw [← hW4]; simp
  have r4 := (b34.block w1.heap.size (by omega)).trans r3
  have B4 : Below w.heap.size w W4 := B3.trans (b34.mono (by omega))
  have HL4 : Hid (Lies w1.heap.size W4 t A1) := HL3.out.later (b34.mono (by omega))
  have HU4 : Hid (Lies w3.heap.size W4 u A2) := HU3.out.later b34
  rw [hW4]
  clear hW4 b34 HL3 HU3 r3 B3
  refine (awake_any _).mono ?_
  rintro e w5 ⟨rfl, hb5⟩
  have hs5 := hb5.size
  have r5 := (hb5.block w1.heap.size (by omega)).trans r4
  have q5 := (hb5.block w3.heap.size (by omega)).trans q4
  have B5 : Below w.heap.size w w5 := B4.trans (hb5.mono (by omega))
  have HL5 : Hid (Lies w1.heap.size w5 t A1) := HL4.out.later (hb5.mono (by omega))
  have HU5 : Hid (Lies w3.heap.size w5 u A2) := HU4.out.later (hb5.mono (by omega))
  clear hb5 r4 q4 B4 HL4 HU4
  have a0 := cell_of_row w5 _ 0 _ _ _ r5
  have a1 := cell_of_row w5 _ 1 _ _ _ r5
  have a2 := cell_of_row w5 _ 2 _ _ _ r5
  have a3 := cell_of_row w5 _ 3 _ _ _ r5
  have a4 := cell_of_row w5 _ 4 _ _ _ r5
  have a5 := cell_of_row w5 _ 5 _ _ _ r5
  by_cases h0 : F = 0
  · subst h0
    have HU0 : Hid (u = t) := HUT.out rfl
    have HO0 : Hid (small t ∧ encT t = y ∧ checkT t = 0 ∧ soundT t 1 = 0 ∧ (⟨(bytesT t).toArray⟩ : ByteArray) = y) := HOK.out rfl
    clear HUT HOK HNO
    have hen := encode_any HL5.out (by omega) HO0.out.1
    rw [HO0.out.2.1, HO0.out.2.2.1] at hen
    replace hen : Calls Try.prog 14 #[.agg #[.int .i64 t.k, .bool t.b, .int .i64 t.n, .string t.s, .slice A1.pa t.m A1.pc, .slice A1.na t.q A1.nc]] w5 fun e w' => e = .returned (.tuple #[.string y, .int .i64 0]) ∧ Below w5.heap.size w5 w' := hen
    go_wp2_with fail
    refine hen.mono ?_
    rintro e w6 ⟨rfl, hb6⟩
    have hs6 := hb6.size
    have q6 := (hb6.block w3.heap.size (by omega)).trans q5
    have B6 : Below w.heap.size w w6 := B5.trans (hb6.mono (by omega))
    have HU6 : Hid (Lies w3.heap.size w6 u A2) := HU5.out.later (hb6.mono (by omega))
    clear hb6 hen q5 B5 HU5 a0 a1 a2 a3 a4 a5
    have hby := rval_any u 1 (by decide) (by rw [HU0.out]; exact HO0.out.2.2.2.1) (by rw [HU0.out]; exact HO0.out.1) _ _ _ HU6.out (by omega)
    have hyy : (⟨(bytesT u).toArray⟩ : ByteArray) = y := by rw [HU0.out]; exact HO0.out.2.2.2.2
    rw [hyy] at hby
    clear hyy
    replace hby : Calls Try.prog 16 #[.agg #[.int .i64 u.k, .bool u.b, .int .i64 u.n, .string u.s, .slice A2.pa u.m A2.pc, .slice A2.na u.q A2.nc]] w6 fun e w' => e = .returned (.string y) ∧ Below w6.heap.size w6 w' := hby
    have d0 := cell_of_row w6 _ 0 _ _ _ q6
    have d1 := cell_of_row w6 _ 1 _ _ _ q6
    have d2 := cell_of_row w6 _ 2 _ _ _ q6
    have d3 := cell_of_row w6 _ 3 _ _ _ q6
    have d4 := cell_of_row w6 _ 4 _ _ _ q6
    have d5 := cell_of_row w6 _ 5 _ _ _ q6
    go_wp2_with fail
    refine hby.mono ?_
    rintro e w7 ⟨rfl, hb7⟩
    have B7 : Below w.heap.size w w7 := B6.trans (hb7.mono (by omega))
    clear d0 d1 d2 d3 d4 d5 hb7 hby
    go_wp2
    go_ret
    exact ⟨rfl, B7⟩
  · have h1 : (F != 0) = true := by simpa using h0
    have ht := HNO.out h0
    have tk0 : t.k = 0 := by rw [ht]; rfl
    have tm0 : t.m = 0 := by rw [ht]; rfl
    have ts0 : t.s = ⟨#[]⟩ := by rw [ht]; rfl
    clear ht
    rw [tk0] at a0
    rw [ts0] at a3
    rw [tm0] at a4
    go_wp2
    go_ret
    exact ⟨rfl, B5⟩
theorem reads_any {s : ByteArray} (w : World) :
    Calls Try.prog 5 #[.string s] w fun e w' => e = .returned (.bool true) ∧ Below w.heap.size w w' := by
  by_cases h : 1500 < s.size
  · exact reads_big h w
  · exact reads_small (by omega) w
end Go.Proofs.Ytjmjlijmeahmfaa
