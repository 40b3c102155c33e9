/- The value of bytes (Decode): what it is, or the first error. -/
import Derived.Test.YtjmjlijmeahmfaaTakew
import Derived.Test.YtjmjlijmeahmfaaEbx
namespace Go.Proofs.Ytjmjlijmeahmfaa
open Go.RowKit
theorem small_leaf {k : Int} {b : Bool} {n : Int} {s : ByteArray} (h : s.size ≤ 4096) : small (leafT k b n s) := ⟨h, fun i hi => by omega⟩
theorem small_take {s : ByteArray} (hs : s.size ≤ 4096) : ∀ D o e, small (takeA s D o e).t
  | 0, _, _ => small_leaf (Nat.zero_le _)
  | D + 1, o, e => by
    rw [takeA]
    by_cases he : e = 0
    · rw [if_pos he]
      by_cases h1 : o < s.size
      · rw [if_pos h1]
        unfold nodeA
        have hz : ((⟨#[]⟩ : ByteArray)).size ≤ 4096 := Nat.zero_le _
        by_cases k0 : byteAt s o = 0
        · rw [if_pos k0]; exact small_leaf hz
        rw [if_neg k0]
        by_cases k1 : byteAt s o = 1
        · rw [if_pos k1]; exact small_leaf hz
        rw [if_neg k1]
        by_cases k2 : byteAt s o = 2
        · rw [if_pos k2]; exact small_leaf hz
        rw [if_neg k2]
        by_cases k3 : byteAt s o = 3 ∨ byteAt s o = 4
        · rw [if_pos k3]; exact small_leaf (by have := textA_size (s := s) (o := o + 1) (er := 0) (m := 1024); omega)
        rw [if_neg k3]
        by_cases k5 : byteAt s o = 5 ∨ byteAt s o = 6
        · rw [if_pos k5]
          refine ⟨hz, fun i hi => ?_⟩
          show small ((runA s (byteAt s o == 6) (takeA s D) ⟨[], [], (countA s (o + 1) 0 32).o, (countA s (o + 1) 0 32).e⟩ (countA s (o + 1) 0 32).v).ts.getD i .no)
          rw [run_ts, List.nil_append, List.getD_eq_getElem?_getD, List.getElem?_map]
          cases (List.range (countA s (o + 1) 0 32).v)[i]? with
          | none => exact trivial
          | some j => exact small_take hs D _ _
        · rw [if_neg k5]; exact small_leaf hz
      · rw [if_neg h1]; exact small_leaf (Nat.zero_le _)
    · rw [if_neg he]; exact small_leaf (Nat.zero_le _)
def endE (s : ByteArray) (k : Tak) : Int := if k.e = 0 then (if k.o < s.size then 5 else 0) else k.e
def decE (s : ByteArray) : Int := if endE s (takeA s 8 0 0) = 0 then checkT (takeA s 8 0 0).t else endE s (takeA s 8 0 0)
theorem end_any {w : World} {b : Nat} {s : ByteArray} {k : Tak} (hcu : Cur w b s (k.o : Int) k.e) : Calls Try.prog 43 #[.pointer (some ⟨b, 0, none⟩)] w fun e w' => e = .returned (.int .i64 (endE s k)) ∧ Only b w w' := by
  unfold endE
  by_cases h : k.e = 0
  · rw [if_pos h]
    rw [h] at hcu
    exact end_ok hcu
  · rw [if_neg h]
    refine (end_err hcu h).mono ?_
    rintro e w' ⟨rfl, n, rfl⟩
    exact ⟨rfl, (Only.refl b w).drewN n⟩
set_option maxRecDepth 100000 in
set_option maxHeartbeats 8000000 in
theorem decode_any (s : ByteArray) (hs : s.size ≤ 4096) (w : World) :
    Calls Try.prog 15 #[.string s] w fun r w' => ∃ A : Ad, r = .returned (.tuple #[(if decE s = 0 then (takeA s 8 0 0).t else leafT 0 false 0 ⟨#[]⟩).val A, .int .i64 (decE s)]) ∧ LiesS (fun k => w.heap.size ≤ k ∧ k < w'.heap.size) w' (if decE s = 0 then (takeA s 8 0 0).t else leafT 0 false 0 ⟨#[]⟩) A ∧ Below w.heap.size w w' := by
  have htk := take_all hs 8 (by omega)
  have hsm := small_take hs 8 0 0
  obtain ⟨tk, htk0⟩ : ∃ tk, takeA s 8 0 0 = tk := ⟨_, rfl⟩
  have hdE : decE s = if endE s tk = 0 then checkT tk.t else endE s tk := by rw [← htk0]; rfl
  rw [htk0] at hsm ⊢
  have htk' : ∀ (w : World) (b : Nat), Cur w b s 0 0 → Calls Try.prog 42 #[.pointer (some ⟨b, 0, none⟩), .int .i64 1] w fun r w' => ∃ A : Ad, r = .returned (.agg #[.int .i64 tk.t.k, .bool tk.t.b, .int .i64 tk.t.n, .string tk.t.s, .slice A.pa tk.t.m A.pc, .slice A.na tk.t.q A.nc]) ∧ LiesS (fun k => w.heap.size ≤ k ∧ k < w'.heap.size) w' tk.t A ∧ Cur w' b s (tk.o : Int) tk.e ∧ Only b w w' ∧ tk.o ≤ s.size := fun w b h => by
    have := htk w b 0 0 h (Nat.zero_le _)
    rw [htk0] at this
    exact this
  clear htk htk0
  obtain ⟨E, hE⟩ : ∃ E, endE s tk = E := ⟨_, rfl⟩
  obtain ⟨F, hF⟩ : ∃ F, decE s = F := ⟨_, rfl⟩
  rw [hE, hF] at hdE
  rw [hF]
  have HE : Hid (endE s tk = E) := hE
  have HDE : Hid (F = if E = 0 then checkT tk.t else E) := hdE
  clear hE hF hdE
  have r2 := heap_alloc_new w (.cells #[.int .i64 0, .bool false, .int .i64 0, .string ⟨#[]⟩, .slice none 0 0, .slice none 0 0] 25)
  have hb2 : Below w.heap.size w (w.alloc (.cells #[.int .i64 0, .bool false, .int .i64 0, .string ⟨#[]⟩, .slice none 0 0, .slice none 0 0] 25)) := (Below.refl _ w).alloc (Nat.le_refl _) _
  obtain ⟨W, hW⟩ : ∃ W, w.alloc (.cells #[.int .i64 0, .bool false, .int .i64 0, .string ⟨#[]⟩, .slice none 0 0, .slice none 0 0] 25) = W := ⟨_, rfl⟩
  have hWs : W.heap.size = w.heap.size + 1 := by rw [← hW]; simp
  go_enter Try.func15, Try.ntmps15
  go_wp2_with fail
  rw [hW] at r2 hb2
  clear hW
  refine (at_any s _).mono ?_
  rintro r w1 ⟨rfl, rfl⟩
  have hcn : Cur (W.alloc (.cells #[.string s, .int .i64 0, .int .i64 0] 101)) W.heap.size s 0 0 := heap_alloc_new _ _
  have hb3 : Below W.heap.size W (W.alloc (.cells #[.string s, .int .i64 0, .int .i64 0] 101)) := (Below.refl _ W).alloc (Nat.le_refl _) _
  have r23 := (hb3.block _ (lt_of_row r2)).trans r2
  have hs3 : (W.alloc (.cells #[.string s, .int .i64 0, .int .i64 0] 101)).heap.size = w.heap.size + 1 + 1 := by simp [hWs]
  have hb3' := hb2.trans (hb3.mono (by omega))
  obtain ⟨W3, hW3⟩ : ∃ W3, W.alloc (.cells #[.string s, .int .i64 0, .int .i64 0] 101) = W3 := ⟨_, rfl⟩
  rw [hW3] at hcn hb3 r23 hs3 hb3' ⊢
  clear hW3 hb3 r2
  rw [hWs] at hcn
  go_wp2_with fail
  refine (htk' _ _ hcn).mono ?_
  rintro r w4 ⟨A, rfl, hL4, hcu4, hon4, _⟩
  have r24 := (hon4.block w.heap.size (by omega) (by omega)).trans r23
  have hb4 : Below w.heap.size w w4 := hb3'.trans (hon4.below (by omega) (by omega))
  have hs4 := hon4.size
  have r5 := heap_alloc_new w4 (.cells #[.int .i64 tk.t.k, .bool tk.t.b, .int .i64 tk.t.n, .string tk.t.s, .slice A.pa tk.t.m A.pc, .slice A.na tk.t.q A.nc] 25)
  have hb5 : Below w4.heap.size w4 (w4.alloc (.cells #[.int .i64 tk.t.k, .bool tk.t.b, .int .i64 tk.t.n, .string tk.t.s, .slice A.pa tk.t.m A.pc, .slice A.na tk.t.q A.nc] 25)) := (Below.refl _ w4).alloc (Nat.le_refl _) _
  have hcu5 := hcu4.later hb5
  have hend := end_any (k := tk) hcu5
  rw [HE.out] at hend
  go_wp2_with fail
  refine hend.mono ?_
  rintro r w6 ⟨rfl, hon6⟩
  have r26 := (hon6.block w.heap.size (by simp; omega) (by omega)).trans ((hb5.block _ (by omega)).trans r24)
  have r56 := (hon6.block w4.heap.size (by simp) (by omega)).trans r5
  have hb6 : Below w.heap.size w w6 := (hb4.trans (hb5.mono (by omega))).trans (hon6.below (by omega) (by simp; omega))
  have hs6 : w4.heap.size + 1 ≤ w6.heap.size := by have := hon6.size; simpa using this
  have hL6 : LiesS (fun k => w.heap.size + 1 + 1 ≤ k ∧ k < w4.heap.size) w6 tk.t A := (hL4.up (fun k hk => ⟨by omega, hk.2⟩)).kept (fun k hk => (hon6.block k (by simp; omega) (by omega)).trans (hb5.block k hk.2))
  have c0 := cell_of_row w6 _ 0 _ _ _ r56
  have c1 := cell_of_row w6 _ 1 _ _ _ r56
  have c2 := cell_of_row w6 _ 2 _ _ _ r56
  have c3 := cell_of_row w6 _ 3 _ _ _ r56
  have c4 := cell_of_row w6 _ 4 _ _ _ r56
  have c5 := cell_of_row w6 _ 5 _ _ _ r56
  have a0 := cell_of_row w6 _ 0 _ _ _ r26
  have a1 := cell_of_row w6 _ 1 _ _ _ r26
  have a2 := cell_of_row w6 _ 2 _ _ _ r26
  have a3 := cell_of_row w6 _ 3 _ _ _ r26
  have a4 := cell_of_row w6 _ 4 _ _ _ r26
  have a5 := cell_of_row w6 _ 5 _ _ _ r26
  have b0 := frozen_of_row w6 _ 0 _ _ r26
  have b1 := frozen_of_row w6 _ 1 _ _ r26
  have b2 := frozen_of_row w6 _ 2 _ _ r26
  have b3 := frozen_of_row w6 _ 3 _ _ r26
  have b4 := frozen_of_row w6 _ 4 _ _ r26
  have b5 := frozen_of_row w6 _ 5 _ _ r26
  by_cases hE0 : E = 0
  · subst hE0
    have hchk := fun (X : World) (h : LiesS (fun k => w.heap.size + 1 + 1 ≤ k ∧ k < w4.heap.size) X tk.t A) (hx : w4.heap.size ≤ X.heap.size) => check_any (t := tk.t) (x := A) (B := w4.heap.size) (h.up (fun k hk => hk.2)) hx hsm
    have hVV : tk.t.val A = .agg #[.int .i64 tk.t.k, .bool tk.t.b, .int .i64 tk.t.n, .string tk.t.s, .slice A.pa tk.t.m A.pc, .slice A.na tk.t.q A.nc] := rfl
    rw [hVV] at hchk
    have hF2 : F = checkT tk.t := by rw [HDE.out, if_pos rfl]
    rw [← hF2] at hchk
    clear HDE hF2
    go_wp2_with fail
    refine (hchk _ hL6 (by omega)).mono ?_
    rintro r w7 ⟨rfl, hb7⟩
    have r27 := (hb7.block _ (lt_of_row r26)).trans r26
    have r57 := (hb7.block _ (lt_of_row r56)).trans r56
    have hbf7 := hb6.trans (hb7.mono (by omega))
    have hL7 := hL6.kept (fun k hk => hb7.block k (by omega))
    clear c0 c1 c2 c3 c4 c5
    clear a0 a1 a2 a3 a4 a5 b0 b1 b2 b3 b4 b5
    have c0 := cell_of_row w7 _ 0 _ _ _ r57
    have c1 := cell_of_row w7 _ 1 _ _ _ r57
    have c2 := cell_of_row w7 _ 2 _ _ _ r57
    have c3 := cell_of_row w7 _ 3 _ _ _ r57
    have c4 := cell_of_row w7 _ 4 _ _ _ r57
    have c5 := cell_of_row w7 _ 5 _ _ _ r57
    have a0 := cell_of_row w7 _ 0 _ _ _ r27
    have a1 := cell_of_row w7 _ 1 _ _ _ r27
    have a2 := cell_of_row w7 _ 2 _ _ _ r27
    have a3 := cell_of_row w7 _ 3 _ _ _ r27
    have a4 := cell_of_row w7 _ 4 _ _ _ r27
    have a5 := cell_of_row w7 _ 5 _ _ _ r27
    have b0 := frozen_of_row w7 _ 0 _ _ r27
    have b1 := frozen_of_row w7 _ 1 _ _ r27
    have b2 := frozen_of_row w7 _ 2 _ _ r27
    have b3 := frozen_of_row w7 _ 3 _ _ r27
    have b4 := frozen_of_row w7 _ 4 _ _ r27
    have b5 := frozen_of_row w7 _ 5 _ _ r27
    by_cases hF0 : F = 0
    · subst hF0
      go_wp2
      change bodyPost _ _ _ _ _ (set6 w7 w.heap.size (.int .i64 tk.t.k) (.bool tk.t.b) (.int .i64 tk.t.n) (.string tk.t.s) (.slice A.pa tk.t.m A.pc) (.slice A.na tk.t.q A.nc))
      have hro := set6_row r27 (.int .i64 tk.t.k) (.bool tk.t.b) (.int .i64 tk.t.n) (.string tk.t.s) (.slice A.pa tk.t.m A.pc) (.slice A.na tk.t.q A.nc)
      have hkeep : ∀ k1, k1 ≠ w.heap.size → (set6 w7 w.heap.size (.int .i64 tk.t.k) (.bool tk.t.b) (.int .i64 tk.t.n) (.string tk.t.s) (.slice A.pa tk.t.m A.pc) (.slice A.na tk.t.q A.nc)).heap[k1]? = w7.heap[k1]? := fun k1 h1 => set6_block _ _ _ _ _ _ _ _ k1 h1
      have hsz := set6_size w7 w.heap.size (.int .i64 tk.t.k) (.bool tk.t.b) (.int .i64 tk.t.n) (.string tk.t.s) (.slice A.pa tk.t.m A.pc) (.slice A.na tk.t.q A.nc)
      have hbf := set6_below hbf7 w.heap.size (Nat.le_refl _) (.int .i64 tk.t.k) (.bool tk.t.b) (.int .i64 tk.t.n) (.string tk.t.s) (.slice A.pa tk.t.m A.pc) (.slice A.na tk.t.q A.nc)
      obtain ⟨wf, hwf⟩ : ∃ wf, set6 w7 w.heap.size (.int .i64 tk.t.k) (.bool tk.t.b) (.int .i64 tk.t.n) (.string tk.t.s) (.slice A.pa tk.t.m A.pc) (.slice A.na tk.t.q A.nc) = wf := ⟨_, rfl⟩
      rw [hwf] at hro hkeep hsz hbf ⊢
      clear hwf
      have v0 := cell_of_row wf _ 0 _ _ _ hro
      have v1 := cell_of_row wf _ 1 _ _ _ hro
      have v2 := cell_of_row wf _ 2 _ _ _ hro
      have v3 := cell_of_row wf _ 3 _ _ _ hro
      have v4 := cell_of_row wf _ 4 _ _ _ hro
      have v5 := cell_of_row wf _ 5 _ _ _ hro
      refine bodyPost_ret (v := .tuple #[.agg #[.int .i64 tk.t.k, .bool tk.t.b, .int .i64 tk.t.n, .string tk.t.s, .slice A.pa tk.t.m A.pc, .slice A.na tk.t.q A.nc], .int .i64 0]) (by simp [results, Try.results15, go_sem, v0, v1, v2, v3, v4, v5]) rfl ?_
      try rw [if_pos rfl]
      refine ⟨A, rfl, ?_, hbf⟩
      refine (hL7.kept (fun k1 hk => hkeep k1 (by omega))).up (fun k1 hk => ⟨by omega, ?_⟩)
      have := hb7.size
      omega
    · have hF1 : (F != 0) = true := by simpa using hF0
      go_wp2
      change bodyPost _ _ _ _ _ (set6 w7 w.heap.size (.int .i64 0) (.bool false) (.int .i64 0) (.string ⟨#[]⟩) (.slice none 0 0) (.slice none 0 0))
      have hro := set6_row r27 (.int .i64 0) (.bool false) (.int .i64 0) (.string ⟨#[]⟩) (.slice none 0 0) (.slice none 0 0)
      have hkeep : ∀ k1, k1 ≠ w.heap.size → (set6 w7 w.heap.size (.int .i64 0) (.bool false) (.int .i64 0) (.string ⟨#[]⟩) (.slice none 0 0) (.slice none 0 0)).heap[k1]? = w7.heap[k1]? := fun k1 h1 => set6_block _ _ _ _ _ _ _ _ k1 h1
      have hsz := set6_size w7 w.heap.size (.int .i64 0) (.bool false) (.int .i64 0) (.string ⟨#[]⟩) (.slice none 0 0) (.slice none 0 0)
      have hbf := set6_below hbf7 w.heap.size (Nat.le_refl _) (.int .i64 0) (.bool false) (.int .i64 0) (.string ⟨#[]⟩) (.slice none 0 0) (.slice none 0 0)
      obtain ⟨wf, hwf⟩ : ∃ wf, set6 w7 w.heap.size (.int .i64 0) (.bool false) (.int .i64 0) (.string ⟨#[]⟩) (.slice none 0 0) (.slice none 0 0) = wf := ⟨_, rfl⟩
      rw [hwf] at hro hkeep hsz hbf ⊢
      clear hwf
      have v0 := cell_of_row wf _ 0 _ _ _ hro
      have v1 := cell_of_row wf _ 1 _ _ _ hro
      have v2 := cell_of_row wf _ 2 _ _ _ hro
      have v3 := cell_of_row wf _ 3 _ _ _ hro
      have v4 := cell_of_row wf _ 4 _ _ _ hro
      have v5 := cell_of_row wf _ 5 _ _ _ hro
      refine bodyPost_ret (v := .tuple #[.agg #[.int .i64 0, .bool false, .int .i64 0, .string ⟨#[]⟩, .slice none 0 0, .slice none 0 0], .int .i64 F]) (by simp [results, Try.results15, go_sem, v0, v1, v2, v3, v4, v5]) rfl ?_
      try rw [if_neg hF0]
      exact ⟨⟨none, 0, none, 0⟩, rfl, lies_leaf (by decide) (by decide) (Nat.zero_le _), hbf⟩
  · have hF2 : F = E := by rw [HDE.out, if_neg hE0]
    subst hF2
    have hF1 : (F != 0) = true := by simpa using hE0
    go_wp2
    change bodyPost _ _ _ _ _ (set6 w6 w.heap.size (.int .i64 0) (.bool false) (.int .i64 0) (.string ⟨#[]⟩) (.slice none 0 0) (.slice none 0 0))
    have hro := set6_row r26 (.int .i64 0) (.bool false) (.int .i64 0) (.string ⟨#[]⟩) (.slice none 0 0) (.slice none 0 0)
    have hkeep : ∀ k1, k1 ≠ w.heap.size → (set6 w6 w.heap.size (.int .i64 0) (.bool false) (.int .i64 0) (.string ⟨#[]⟩) (.slice none 0 0) (.slice none 0 0)).heap[k1]? = w6.heap[k1]? := fun k1 h1 => set6_block _ _ _ _ _ _ _ _ k1 h1
    have hsz := set6_size w6 w.heap.size (.int .i64 0) (.bool false) (.int .i64 0) (.string ⟨#[]⟩) (.slice none 0 0) (.slice none 0 0)
    have hbf := set6_below hb6 w.heap.size (Nat.le_refl _) (.int .i64 0) (.bool false) (.int .i64 0) (.string ⟨#[]⟩) (.slice none 0 0) (.slice none 0 0)
    obtain ⟨wf, hwf⟩ : ∃ wf, set6 w6 w.heap.size (.int .i64 0) (.bool false) (.int .i64 0) (.string ⟨#[]⟩) (.slice none 0 0) (.slice none 0 0) = wf := ⟨_, rfl⟩
    rw [hwf] at hro hkeep hsz hbf ⊢
    clear hwf
    have v0 := cell_of_row wf _ 0 _ _ _ hro
    have v1 := cell_of_row wf _ 1 _ _ _ hro
    have v2 := cell_of_row wf _ 2 _ _ _ hro
    have v3 := cell_of_row wf _ 3 _ _ _ hro
    have v4 := cell_of_row wf _ 4 _ _ _ hro
    have v5 := cell_of_row wf _ 5 _ _ _ hro
    refine bodyPost_ret (v := .tuple #[.agg #[.int .i64 0, .bool false, .int .i64 0, .string ⟨#[]⟩, .slice none 0 0, .slice none 0 0], .int .i64 F]) (by simp [results, Try.results15, go_sem, v0, v1, v2, v3, v4, v5]) rfl ?_
    try rw [if_neg hE0]
    exact ⟨⟨none, 0, none, 0⟩, rfl, lies_leaf (by decide) (by decide) (Nat.zero_le _), hbf⟩
end Go.Proofs.Ytjmjlijmeahmfaa
