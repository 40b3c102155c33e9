/- The document's value of bytes (its Decode): the program's own, or its error. -/
import Derived.Test.YtjmjlijmeahmfaaRdc
namespace Go.Proofs.Ytjmjlijmeahmfaa
open Go.RowKit
set_option maxRecDepth 100000 in
set_option maxHeartbeats 4000000 in
theorem rdecode_any {s : ByteArray} (hs : s.size ≤ 4096) (w : World) :
    Calls Try.prog 18 #[.string s] w fun r w' => ∃ (A : Ad) (u : Tr), r = .returned (.tuple #[u.val A, .int .i64 (decE s)]) ∧ LiesS (fun k => w.heap.size ≤ k ∧ k < w'.heap.size) w' u A ∧ (decE s = 0 → u = (takeA s 8 0 0).t) ∧ Below w.heap.size w w' := by
  have htk := fun W => rtake_all hs 8 (by decide) W 0 0 (Nat.zero_le _)
  have hsm := small_take hs 8 0 0
  obtain ⟨tk, htk0⟩ : ∃ tk, takeA s 8 0 0 = tk := ⟨_, rfl⟩
  have hdE : decE s = if endE s tk = 0 then checkT tk.t else endE s tk := by rw [← htk0]; rfl
  rw [htk0] at hsm ⊢
  simp only [htk0] at htk
  clear htk0
  obtain ⟨F, hF⟩ : ∃ F, decE s = F := ⟨_, rfl⟩
  rw [hF] at hdE ⊢
  have HDE : Hid (F = if endE s tk = 0 then checkT tk.t else endE s tk) := hdE
  have HSM : Hid (small tk.t) := hsm
  clear hF hdE hsm
  replace htk : ∀ W : World, Calls Try.prog 48 #[.agg #[.string s, .int .i64 0, .int .i64 0], .int .i64 1] W fun r w' => ∃ (A : Ad) (u : Tr) (o' : Nat), r = .returned (.tuple #[.agg #[.string s, .int .i64 (o' : Int), .int .i64 tk.e], .agg #[.int .i64 u.k, .bool u.b, .int .i64 u.n, .string u.s, .slice A.pa u.m A.pc, .slice A.na u.q A.nc]]) ∧ LiesS (fun k => W.heap.size ≤ k ∧ k < w'.heap.size) w' u A ∧ o' ≤ s.size ∧ (tk.e = 0 → o' = tk.o ∧ u = tk.t) ∧ Below W.heap.size W w' := htk
  have b0 : Below w.heap.size w (w.alloc (.cells #[.int .i64 0, .bool false, .int .i64 0, .string ⟨#[]⟩, .slice none 0 0, .slice none 0 0] 33)) := (Below.refl _ w).alloc (Nat.le_refl _) _
  have r0 := heap_alloc_new w (.cells #[.int .i64 0, .bool false, .int .i64 0, .string ⟨#[]⟩, .slice none 0 0, .slice none 0 0] 33)
  go_enter Try.func18, Try.ntmps18
  go_wp2_with fail
  refine (htk _).mono ?_
  rintro e w1 ⟨A, u, o', rfl, hL1, ho', heq, hb1⟩
  have hs1 : w.heap.size + 1 ≤ w1.heap.size := by have := hb1.size; simpa using this
  have B1 : Below w.heap.size w w1 := b0.trans (hb1.mono (by simp))
  have q0 := (hb1.block w.heap.size (by simp)).trans r0
  have HL1 : Hid (LiesS (fun k => w.heap.size + 1 ≤ k ∧ k < w1.heap.size) w1 u A) := hL1.up (fun k hk => by simpa using hk)
  have HEQ : Hid (tk.e = 0 → o' = tk.o ∧ u = tk.t) := heq
  clear hL1 hb1 htk b0 r0 heq
  have q4 : ((w1.alloc (.cells #[.string s, .int .i64 (o' : Int), .int .i64 tk.e] 80)).alloc (.cells #[.int .i64 u.k, .bool u.b, .int .i64 u.n, .string u.s, .slice A.pa u.m A.pc, .slice A.na u.q A.nc] 33)).heap[w1.heap.size]? = some (.cells #[.string s, .int .i64 (o' : Int), .int .i64 tk.e] 80 (0, 0)) := row_alloc (heap_alloc_new _ _) _
  have q5 : ((w1.alloc (.cells #[.string s, .int .i64 (o' : Int), .int .i64 tk.e] 80)).alloc (.cells #[.int .i64 u.k, .bool u.b, .int .i64 u.n, .string u.s, .slice A.pa u.m A.pc, .slice A.na u.q A.nc] 33)).heap[w1.heap.size + 1]? = some (.cells #[.int .i64 u.k, .bool u.b, .int .i64 u.n, .string u.s, .slice A.pa u.m A.pc, .slice A.na u.q A.nc] 33 (0, 0)) := by
    have := heap_alloc_new (w1.alloc (.cells #[.string s, .int .i64 (o' : Int), .int .i64 tk.e] 80)) (.cells #[.int .i64 u.k, .bool u.b, .int .i64 u.n, .string u.s, .slice A.pa u.m A.pc, .slice A.na u.q A.nc] 33)
    simpa using this
  have hb2 : Below w1.heap.size w1 ((w1.alloc (.cells #[.string s, .int .i64 (o' : Int), .int .i64 tk.e] 80)).alloc (.cells #[.int .i64 u.k, .bool u.b, .int .i64 u.n, .string u.s, .slice A.pa u.m A.pc, .slice A.na u.q A.nc] 33)) := ((Below.refl _ w1).alloc (Nat.le_refl _) _).alloc (by simp) _
  obtain ⟨W2, hW2⟩ : ∃ W2, (w1.alloc (.cells #[.string s, .int .i64 (o' : Int), .int .i64 tk.e] 80)).alloc (.cells #[.int .i64 u.k, .bool u.b, .int .i64 u.n, .string u.s, .slice A.pa u.m A.pc, .slice A.na u.q A.nc] 33) = W2 := ⟨_, rfl⟩
  have hs2 : W2.heap.size = w1.heap.size + 1 + 1 := by rw [← hW2]; simp
  rw [hW2] at q4 q5 hb2
  have HW2 : Hid ((w1.alloc (.cells #[.string s, .int .i64 (o' : Int), .int .i64 tk.e] 80)).alloc (.cells #[.int .i64 u.k, .bool u.b, .int .i64 u.n, .string u.s, .slice A.pa u.m A.pc, .slice A.na u.q A.nc] 33) = W2) := hW2
  clear hW2
  have q02 := (hb2.block w.heap.size (by omega)).trans q0
  have B2 : Below w.heap.size w W2 := B1.trans (hb2.mono (by omega))
  have HL2 : Hid (LiesS (fun k => w.heap.size + 1 ≤ k ∧ k < w1.heap.size) W2 u A) := LiesS.kept (fun k hk => hb2.block k hk.2) HL1.out
  clear HL1 B1 hb2 q0
  obtain ⟨⟨c0, c1, c2⟩, f0, f1, f2⟩ := row3 q4
  obtain ⟨E, hE⟩ : ∃ E, (if tk.e = 0 ∧ o' < s.size then (5 : Int) else tk.e) = E := ⟨_, rfl⟩
  have hEE : endE s tk = E := by
    rw [← hE]
    unfold endE
    by_cases h0 : tk.e = 0
    · rw [if_pos h0, (HEQ.out h0).1]
      by_cases h1 : tk.o < s.size
      · rw [if_pos h1, if_pos ⟨h0, h1⟩]
      · rw [if_neg h1, if_neg (fun h => h1 h.2), h0]
    · rw [if_neg h0, if_neg (fun h => h0 h.1)]
  have hE0 : E = 0 → u = tk.t := by
    intro h
    by_cases h0 : tk.e = 0
    · exact (HEQ.out h0).2
    · rw [← hE, if_neg (fun h => h0 h.1)] at h; exact absurd h h0
  have hend := rend_at s o' tk.e W2
  rw [hE] at hend
  have HEE : Hid (endE s tk = E) := hEE
  have HE0 : Hid (E = 0 → u = tk.t) := hE0
  clear hE hEE hE0 HEQ
  go_upto_region 2 with fail
  try rw [HW2.out]
  go_wp2_with fail
  refine hend.mono ?_
  rintro e w3 ⟨rfl, hb3⟩
  have hs3 := hb3.size
  have p4 := (hb3.block w1.heap.size (by omega)).trans q4
  have p5 := (hb3.block (w1.heap.size + 1) (by omega)).trans q5
  have p0 := (hb3.block w.heap.size (by omega)).trans q02
  have B3 : Below w.heap.size w w3 := B2.trans (hb3.mono (by omega))
  have HL3 : Hid (LiesS (fun k => w.heap.size + 1 ≤ k ∧ k < w1.heap.size) w3 u A) := LiesS.kept (fun k hk => hb3.block k (by omega)) HL2.out
  clear hend hb3 HL2 q4 q5 q02 B2 c0 c1 c2 f0 f1 f2 HW2
  obtain ⟨⟨c0, c1, c2⟩, f0, f1, f2⟩ := row3 p4
  go_upto_region 3 with fail
  change Code.wp _ _ _ _ (set3 w3 w1.heap.size (.string s) (.int .i64 (o' : Int)) (.int .i64 E))
  have m4 := set3_row p4 (.string s) (.int .i64 (o' : Int)) (.int .i64 E)
  have m5 := (set3_block w3 w1.heap.size (.string s) (.int .i64 (o' : Int)) (.int .i64 E) (w1.heap.size + 1) (by omega)).trans p5
  have m0 := (set3_block w3 w1.heap.size (.string s) (.int .i64 (o' : Int)) (.int .i64 E) w.heap.size (by omega)).trans p0
  have B4 : Below w.heap.size w (set3 w3 w1.heap.size (.string s) (.int .i64 (o' : Int)) (.int .i64 E)) := below_set3 B3 (by omega) _ _ _
  have hs4 := set3_size w3 w1.heap.size (.string s) (.int .i64 (o' : Int)) (.int .i64 E)
  have hL4 : LiesS (fun k => w.heap.size + 1 ≤ k ∧ k < w1.heap.size) (set3 w3 w1.heap.size (.string s) (.int .i64 (o' : Int)) (.int .i64 E)) u A := LiesS.kept (fun k hk => set3_block w3 w1.heap.size (.string s) (.int .i64 (o' : Int)) (.int .i64 E) k (by omega)) HL3.out
  obtain ⟨w4, hw4⟩ : ∃ w4, set3 w3 w1.heap.size (.string s) (.int .i64 (o' : Int)) (.int .i64 E) = w4 := ⟨_, rfl⟩
  rw [hw4] at m4 m5 m0 B4 hs4 hL4 ⊢
  clear hw4 c0 c1 c2 f0 f1 f2 p4 p5 p0 B3 HL3
  have HS4 : Hid (w4.heap.size = w3.heap.size) := hs4
  clear hs4
  obtain ⟨⟨c0, c1, c2⟩, f0, f1, f2⟩ := row3 m4
  by_cases h0 : E = 0
  · subst h0
    have hu := HE0.out rfl
    have hck := rcheck_any (t := u) (B := w1.heap.size) (w := w4) (x := A) (hL4.up (fun k hk => hk.2)) (by have := HS4.out; omega) (by rw [hu]; exact HSM.out)
    have hFc : F = checkT u := by rw [HDE.out, if_pos HEE.out, hu]
    obtain ⟨C, hC⟩ : ∃ C, checkT u = C := ⟨_, rfl⟩
    rw [hC] at hck hFc
    have HFC : Hid (F = C) := hFc
    have HU : Hid (u = tk.t) := hu
    clear hC hFc HDE hu
    replace hck : Calls Try.prog 12 #[.agg #[.int .i64 u.k, .bool u.b, .int .i64 u.n, .string u.s, .slice A.pa u.m A.pc, .slice A.na u.q A.nc]] w4 fun e w' => e = .returned (.int .i64 C) ∧ Below w4.heap.size w4 w' := hck
    have x0 := cell_of_row _ _ 0 _ _ _ m5
    have x1 := cell_of_row _ _ 1 _ _ _ m5
    have x2 := cell_of_row _ _ 2 _ _ _ m5
    have x3 := cell_of_row _ _ 3 _ _ _ m5
    have x4 := cell_of_row _ _ 4 _ _ _ m5
    have x5 := cell_of_row _ _ 5 _ _ _ m5
    go_wp2_with fail
    refine hck.mono ?_
    rintro e w5 ⟨rfl, hb5⟩
    have hs5 := hb5.size
    have n4 := (hb5.block w1.heap.size (by have := HS4.out; omega)).trans m4
    have n5 := (hb5.block (w1.heap.size + 1) (by have := HS4.out; omega)).trans m5
    have n0 := (hb5.block w.heap.size (by have := HS4.out; omega)).trans m0
    have B5 : Below w.heap.size w w5 := B4.trans (hb5.mono (by have := HS4.out; omega))
    have hL5 : LiesS (fun k => w.heap.size + 1 ≤ k ∧ k < w1.heap.size) w5 u A := LiesS.kept (fun k hk => hb5.block k (by have := HS4.out; omega)) hL4
    clear hb5 hck m4 m5 m0 B4 hL4 c0 c1 c2 f0 f1 f2 x0 x1 x2 x3 x4 x5
    obtain ⟨⟨c0, c1, c2⟩, f0, f1, f2⟩ := row3 n4
    have hlast : w1.heap.size ≠ w.heap.size := by omega
    have hlast2 : w.heap.size ≠ w1.heap.size := by omega
    have HK0 : Hid ((w5.setCell ⟨w1.heap.size, 2, none⟩ (.int .i64 C)).heap[w.heap.size]? = some (.cells #[.int .i64 0, .bool false, .int .i64 0, .string ⟨#[]⟩, .slice none 0 0, .slice none 0 0] 33 (0, 0))) := (Below.heap_setCell w5 ⟨w1.heap.size, 2, none⟩ (.int .i64 C) w.heap.size (by show w.heap.size ≠ w1.heap.size; omega)).trans n0
    have HB6 : Hid (Below w.heap.size w (w5.setCell ⟨w1.heap.size, 2, none⟩ (.int .i64 C))) := B5.setCell (by show w.heap.size ≤ w1.heap.size; omega) _
    have HL6 : Hid (LiesS (fun k => w.heap.size + 1 ≤ k ∧ k < w1.heap.size) (w5.setCell ⟨w1.heap.size, 2, none⟩ (.int .i64 C)) u A) := LiesS.kept (fun k hk => Below.heap_setCell w5 ⟨w1.heap.size, 2, none⟩ (.int .i64 C) k (by show k ≠ w1.heap.size; omega)) hL5
    have HS6 : Hid ((w5.setCell ⟨w1.heap.size, 2, none⟩ (.int .i64 C)).heap.size = w5.heap.size) := by show _ = _; simp
    clear hL5 B5
    by_cases hc : C = 0
    · subst hc
      have x0 := cell_of_row _ _ 0 _ _ _ n5
      have x1 := cell_of_row _ _ 1 _ _ _ n5
      have x2 := cell_of_row _ _ 2 _ _ _ n5
      have x3 := cell_of_row _ _ 3 _ _ _ n5
      have x4 := cell_of_row _ _ 4 _ _ _ n5
      have x5 := cell_of_row _ _ 5 _ _ _ n5
      have y0 := cell_of_row _ _ 0 _ _ _ n0
      have z0 := frozen_of_row _ _ 0 _ _ n0
      have y1 := cell_of_row _ _ 1 _ _ _ n0
      have z1 := frozen_of_row _ _ 1 _ _ n0
      have y2 := cell_of_row _ _ 2 _ _ _ n0
      have z2 := frozen_of_row _ _ 2 _ _ n0
      have y3 := cell_of_row _ _ 3 _ _ _ n0
      have z3 := frozen_of_row _ _ 3 _ _ n0
      have y4 := cell_of_row _ _ 4 _ _ _ n0
      have z4 := frozen_of_row _ _ 4 _ _ n0
      have y5 := cell_of_row _ _ 5 _ _ _ n0
      have z5 := frozen_of_row _ _ 5 _ _ n0
      go_wp2
      change bodyPost _ _ _ _ _ (set6 (w5.setCell ⟨w1.heap.size, 2, none⟩ (.int .i64 0)) w.heap.size (.int .i64 u.k) (.bool u.b) (.int .i64 u.n) (.string u.s) (.slice A.pa u.m A.pc) (.slice A.na u.q A.nc))
      have hro := set6_row HK0.out (.int .i64 u.k) (.bool u.b) (.int .i64 u.n) (.string u.s) (.slice A.pa u.m A.pc) (.slice A.na u.q A.nc)
      have hbf := set6_below HB6.out w.heap.size (Nat.le_refl _) (.int .i64 u.k) (.bool u.b) (.int .i64 u.n) (.string u.s) (.slice A.pa u.m A.pc) (.slice A.na u.q A.nc)
      have hsz := set6_size (w5.setCell ⟨w1.heap.size, 2, none⟩ (.int .i64 0)) w.heap.size (.int .i64 u.k) (.bool u.b) (.int .i64 u.n) (.string u.s) (.slice A.pa u.m A.pc) (.slice A.na u.q A.nc)
      have hL7 : LiesS (fun k => w.heap.size + 1 ≤ k ∧ k < w1.heap.size) (set6 (w5.setCell ⟨w1.heap.size, 2, none⟩ (.int .i64 0)) w.heap.size (.int .i64 u.k) (.bool u.b) (.int .i64 u.n) (.string u.s) (.slice A.pa u.m A.pc) (.slice A.na u.q A.nc)) u A := LiesS.kept (fun k hk => set6_block (w5.setCell ⟨w1.heap.size, 2, none⟩ (.int .i64 0)) w.heap.size (.int .i64 u.k) (.bool u.b) (.int .i64 u.n) (.string u.s) (.slice A.pa u.m A.pc) (.slice A.na u.q A.nc) k (by omega)) HL6.out
      obtain ⟨wf, hwf⟩ : ∃ wf, set6 (w5.setCell ⟨w1.heap.size, 2, none⟩ (.int .i64 0)) w.heap.size (.int .i64 u.k) (.bool u.b) (.int .i64 u.n) (.string u.s) (.slice A.pa u.m A.pc) (.slice A.na u.q A.nc) = wf := ⟨_, rfl⟩
      rw [hwf] at hro hbf hsz hL7 ⊢
      clear hwf
      have v0 := cell_of_row wf _ 0 _ _ _ hro
      have v1 := cell_of_row wf _ 1 _ _ _ hro
      have v2 := cell_of_row wf _ 2 _ _ _ hro
      have v3 := cell_of_row wf _ 3 _ _ _ hro
      have v4 := cell_of_row wf _ 4 _ _ _ hro
      have v5 := cell_of_row wf _ 5 _ _ _ hro
      refine bodyPost_ret (v := .tuple #[.agg #[.int .i64 u.k, .bool u.b, .int .i64 u.n, .string u.s, .slice A.pa u.m A.pc, .slice A.na u.q A.nc], .int .i64 0]) (by simp [results, Try.results18, go_sem, v0, v1, v2, v3, v4, v5]) rfl ⟨A, u, ?_, hL7.up (fun k hk => ⟨by omega, by have := HS6.out; have := HS4.out; omega⟩), fun _ => HU.out, hbf⟩
      rw [HFC.out]; rfl
    · have hc1 : (C != 0) = true := by simpa using hc
      have y0 := cell_of_row _ _ 0 _ _ _ n0
      have z0 := frozen_of_row _ _ 0 _ _ n0
      have y1 := cell_of_row _ _ 1 _ _ _ n0
      have z1 := frozen_of_row _ _ 1 _ _ n0
      have y2 := cell_of_row _ _ 2 _ _ _ n0
      have z2 := frozen_of_row _ _ 2 _ _ n0
      have y3 := cell_of_row _ _ 3 _ _ _ n0
      have z3 := frozen_of_row _ _ 3 _ _ n0
      have y4 := cell_of_row _ _ 4 _ _ _ n0
      have z4 := frozen_of_row _ _ 4 _ _ n0
      have y5 := cell_of_row _ _ 5 _ _ _ n0
      have z5 := frozen_of_row _ _ 5 _ _ n0
      go_wp2_with fail
      go_region
      all_goals
        go_wp2
        change bodyPost _ _ _ _ _ (set6 (w5.setCell ⟨w1.heap.size, 2, none⟩ (.int .i64 C)) w.heap.size (.int .i64 0) (.bool false) (.int .i64 0) (.string ⟨#[]⟩) (.slice none 0 0) (.slice none 0 0)).drew
        have hro := set6_row HK0.out (.int .i64 0) (.bool false) (.int .i64 0) (.string ⟨#[]⟩) (.slice none 0 0) (.slice none 0 0)
        have hbf := set6_below HB6.out w.heap.size (Nat.le_refl _) (.int .i64 0) (.bool false) (.int .i64 0) (.string ⟨#[]⟩) (.slice none 0 0) (.slice none 0 0)
        obtain ⟨wf, hwf⟩ : ∃ wf, set6 (w5.setCell ⟨w1.heap.size, 2, none⟩ (.int .i64 C)) w.heap.size (.int .i64 0) (.bool false) (.int .i64 0) (.string ⟨#[]⟩) (.slice none 0 0) (.slice none 0 0) = wf := ⟨_, rfl⟩
        rw [hwf] at hro hbf ⊢
        clear hwf
        have v0 := cell_of_row wf.drew _ 0 _ _ _ hro
        have v1 := cell_of_row wf.drew _ 1 _ _ _ hro
        have v2 := cell_of_row wf.drew _ 2 _ _ _ hro
        have v3 := cell_of_row wf.drew _ 3 _ _ _ hro
        have v4 := cell_of_row wf.drew _ 4 _ _ _ hro
        have v5 := cell_of_row wf.drew _ 5 _ _ _ hro
        refine bodyPost_ret (v := .tuple #[.agg #[.int .i64 0, .bool false, .int .i64 0, .string ⟨#[]⟩, .slice none 0 0, .slice none 0 0], .int .i64 C]) (by simp [results, Try.results18, go_sem, v0, v1, v2, v3, v4, v5]) rfl ⟨⟨none, 0, none, 0⟩, leafT 0 false 0 ⟨#[]⟩, ?_, lies_leaf (by decide) (by decide) (Nat.zero_le _), fun h => absurd h (by rw [HFC.out]; exact hc), hbf.drew⟩
        rw [HFC.out]; rfl
  · have h01 : (E == 0) = false := by simpa using h0
    have h02 : (E != 0) = true := by simpa using h0
    have hFE : F = E := by rw [HDE.out, HEE.out, if_neg h0]
    · skip
      have y0 := cell_of_row _ _ 0 _ _ _ m0
      have z0 := frozen_of_row _ _ 0 _ _ m0
      have y1 := cell_of_row _ _ 1 _ _ _ m0
      have z1 := frozen_of_row _ _ 1 _ _ m0
      have y2 := cell_of_row _ _ 2 _ _ _ m0
      have z2 := frozen_of_row _ _ 2 _ _ m0
      have y3 := cell_of_row _ _ 3 _ _ _ m0
      have z3 := frozen_of_row _ _ 3 _ _ m0
      have y4 := cell_of_row _ _ 4 _ _ _ m0
      have z4 := frozen_of_row _ _ 4 _ _ m0
      have y5 := cell_of_row _ _ 5 _ _ _ m0
      have z5 := frozen_of_row _ _ 5 _ _ m0
      go_wp2_with fail
      go_region
      all_goals
        go_wp2
        change bodyPost _ _ _ _ _ (set6 w4 w.heap.size (.int .i64 0) (.bool false) (.int .i64 0) (.string ⟨#[]⟩) (.slice none 0 0) (.slice none 0 0)).drew
        have hro := set6_row m0 (.int .i64 0) (.bool false) (.int .i64 0) (.string ⟨#[]⟩) (.slice none 0 0) (.slice none 0 0)
        have hbf := set6_below B4 w.heap.size (Nat.le_refl _) (.int .i64 0) (.bool false) (.int .i64 0) (.string ⟨#[]⟩) (.slice none 0 0) (.slice none 0 0)
        obtain ⟨wf, hwf⟩ : ∃ wf, set6 w4 w.heap.size (.int .i64 0) (.bool false) (.int .i64 0) (.string ⟨#[]⟩) (.slice none 0 0) (.slice none 0 0) = wf := ⟨_, rfl⟩
        rw [hwf] at hro hbf ⊢
        clear hwf
        have v0 := cell_of_row wf.drew _ 0 _ _ _ hro
        have v1 := cell_of_row wf.drew _ 1 _ _ _ hro
        have v2 := cell_of_row wf.drew _ 2 _ _ _ hro
        have v3 := cell_of_row wf.drew _ 3 _ _ _ hro
        have v4 := cell_of_row wf.drew _ 4 _ _ _ hro
        have v5 := cell_of_row wf.drew _ 5 _ _ _ hro
        refine bodyPost_ret (v := .tuple #[.agg #[.int .i64 0, .bool false, .int .i64 0, .string ⟨#[]⟩, .slice none 0 0, .slice none 0 0], .int .i64 E]) (by simp [results, Try.results18, go_sem, v0, v1, v2, v3, v4, v5]) rfl ⟨⟨none, 0, none, 0⟩, leafT 0 false 0 ⟨#[]⟩, ?_, lies_leaf (by decide) (by decide) (Nat.zero_le _), fun h => absurd h (by rw [hFE]; exact h0), hbf.drew⟩
        rw [hFE]; rfl
end Go.Proofs.Ytjmjlijmeahmfaa
