/- A list of two values (List); ValueOwn called: true, and nothing that was there is changed. -/
import Derived.Test.YtjmjlijmeahmfaaAwk
import Derived.Test.YtjmjlijmeahmfaaCux
namespace Go.Proofs.Ytjmjlijmeahmfaa
open Go.RowKit
theorem slimq_cut (t : Tr) : ∀ deep wide, wide ≤ 33 → slimq (cutT t deep wide) := by
  induction t with
  | no => intro _ _ _; trivial
  | mk k b n s m f q g ih =>
    intro deep wide hw
    rw [cutT]
    refine ⟨?_, by omega, fun i _ => ih i _ _ (by decide)⟩
    split <;> omega
theorem small_cut (t : Tr) : ∀ deep wide, small (cutT t deep wide) := by
  induction t with
  | no => intro _ _; trivial
  | mk k b n s m f q g ih =>
    intro deep wide
    rw [cutT]
    refine ⟨?_, fun i _ => ih i _ _⟩
    split
    · rw [ByteArray.size_extract]; omega
    · omega
theorem cmpI_self (x : Int) : cmpI x x = 0 := by unfold cmpI; rw [if_neg (by omega), if_neg (by omega)]
theorem cmpL_self : ∀ l : List UInt8, Lib.compareBytes l l = 0
  | [] => rfl
  | x :: l => by rw [Lib.compareBytes]; simp [cmpL_self l]
theorem cmpB_self (s : ByteArray) : cmpB s s = 0 := cmpL_self _
theorem fe_none : ∀ (m : Nat) (F : Nat → Int), (∀ i, i < m → F i = 0) → fe m F = 0
  | 0, _, _ => rfl
  | m + 1, F, h => by
    rw [fe, fe_none m F (fun i hi => h i (by omega)), if_pos rfl]
    exact h m (by omega)
theorem cmpT_self (t : Tr) : cmpT t t = 0 := by
  induction t with
  | no => rfl
  | mk k b n s m f q g ih =>
    have h : fe (min m m) (cmpF q q g g (fun i => cmpT (f i) (f i))) = 0 := fe_none _ _ (fun i _ => by
      unfold cmpF
      rw [if_neg (fun hh => hh.2 rfl)]
      exact ih i)
    show (if k = k then (if k = 1 then cmpB (boolB b) (boolB b) else if k = 2 then cmpI n n else if k = 3 ∨ k = 4 then cmpB s s else if k = 5 ∨ k = 6 then (if fe (min m m) (cmpF q q g g (fun i => cmpT (f i) (f i))) = 0 then cmpI m m else fe (min m m) (cmpF q q g g (fun i => cmpT (f i) (f i)))) else 0) else cmpI k k) = 0
    rw [if_pos rfl, cmpB_self, cmpB_self, cmpI_self, h, if_pos rfl, cmpI_self]
    simp
set_option maxHeartbeats 2000000 in
theorem list2 {B : Nat} {w : World} {pb : Nat} {f : Nat → Tr} {A : Nat → Ad} (hB : B ≤ w.heap.size) (hpb : pb < B) (hat : ∀ i, i < 2 → At6 w pb (0 + i * 6) (f i) (A i)) (hr : ∀ i, i < 2 → Lies B w (f i) (A i)) (hsl : ∀ i, i < 2 → slimq (f i)) :
    Calls Try.prog 31 #[.slice (some ⟨pb, 0, none⟩) 2 2] w fun e w' => ∃ (lb : Nat) (A' : Nat → Ad), e = .returned (.agg #[.int .i64 5, .bool false, .int .i64 0, .string ⟨#[]⟩, .slice (some ⟨lb, 0, none⟩) 2 2, .slice none 0 0]) ∧ lb < w'.heap.size ∧ (∀ i, i < 2 → At6 w' lb (0 + i * 6) (f i) (A' i)) ∧ Below w.heap.size w w' := by
  have hcl : ∀ W : World, Below w.heap.size w W → Calls Try.prog 63 #[.slice (some ⟨pb, 0, none⟩) 2 2] W fun e w' => ∃ (A' : Nat → Ad), e = .returned (.slice (some ⟨W.heap.size, 0, none⟩) 2 2) ∧ (∀ i, i < 2 → At6 w' W.heap.size (0 + i * 6) (f i) (A' i)) ∧ Below W.heap.size W w' ∧ W.heap.size < w'.heap.size := fun W hb => by
    refine (cloneAll_some (pc := 2) (m := 2) (by decide) (by decide) (Nat.le_trans hB hb.size) hpb (fun i hi => (hat i hi).later hpb (hb.mono hB)) (fun i hi => (hr i hi).later (hb.mono hB)) (fun i hi => clone_all (f i) (hsl i hi))).mono ?_
    rintro e w' ⟨A', h1, h2, _, h4, h5⟩
    exact ⟨A', h1, h2, h4, h5⟩
  have HC : Hid (∀ W : World, Below w.heap.size w W → Calls Try.prog 63 #[.slice (some ⟨pb, 0, none⟩) 2 2] W fun e w' => ∃ (A' : Nat → Ad), e = .returned (.slice (some ⟨W.heap.size, 0, none⟩) 2 2) ∧ (∀ i, i < 2 → At6 w' W.heap.size (0 + i * 6) (f i) (A' i)) ∧ Below W.heap.size W w' ∧ W.heap.size < w'.heap.size) := hcl
  clear hcl hat hr hsl
  go_enter Try.func31, Try.ntmps31
  go_wp2_with fail
  have q0 := heap_alloc_new w (.cells #[.int .i64 0, .bool false, .int .i64 0, .string ⟨#[]⟩, .slice none 0 0, .slice none 0 0] 25)
  have b0 : Below w.heap.size w (w.alloc (.cells #[.int .i64 0, .bool false, .int .i64 0, .string ⟨#[]⟩, .slice none 0 0, .slice none 0 0] 25)) := (Below.refl _ _).alloc (Nat.le_refl _) _
  refine (HC.out _ b0).mono ?_
  rintro e w1 ⟨A', rfl, h6, hb1, hlt⟩
  have q1 := (hb1.block w.heap.size (by simp)).trans q0
  have hs1 : w.heap.size + 1 ≤ w1.heap.size := by have := hb1.size; simpa using this
  have B1 : Below w.heap.size w w1 := b0.trans (hb1.mono (by simp))
  have hz : (w.alloc (.cells #[.int .i64 0, .bool false, .int .i64 0, .string ⟨#[]⟩, .slice none 0 0, .slice none 0 0] 25)).heap.size = w.heap.size + 1 := by simp
  rw [hz] at h6 hlt ⊢
  have c0 := cell_of_row w1 _ 0 _ _ _ q1
  have c1 := cell_of_row w1 _ 1 _ _ _ q1
  have c2 := cell_of_row w1 _ 2 _ _ _ q1
  have c3 := cell_of_row w1 _ 3 _ _ _ q1
  have c4 := cell_of_row w1 _ 4 _ _ _ q1
  have c5 := cell_of_row w1 _ 5 _ _ _ q1
  have y0 := frozen_of_row w1 _ 0 _ _ q1
  have y1 := frozen_of_row w1 _ 1 _ _ q1
  have y2 := frozen_of_row w1 _ 2 _ _ q1
  have y3 := frozen_of_row w1 _ 3 _ _ q1
  have y4 := frozen_of_row w1 _ 4 _ _ q1
  have y5 := frozen_of_row w1 _ 5 _ _ q1
  have H6 : Hid (∀ i, i < 2 → At6 w1 (w.heap.size + 1) (0 + i * 6) (f i) (A' i)) := h6
  clear h6 hb1 hz b0 q0 HC
  go_wp2
  change bodyPost _ _ _ _ _ (set6 w1 w.heap.size (.int .i64 5) (.bool false) (.int .i64 0) (.string ⟨#[]⟩) (.slice (some ⟨w.heap.size + 1, 0, none⟩) 2 2) (.slice none 0 0))
  have hro := set6_row q1 (.int .i64 5) (.bool false) (.int .i64 0) (.string ⟨#[]⟩) (.slice (some ⟨w.heap.size + 1, 0, none⟩) 2 2) (.slice none 0 0)
  have hkeep : ∀ k1, k1 ≠ w.heap.size → (set6 w1 w.heap.size (.int .i64 5) (.bool false) (.int .i64 0) (.string ⟨#[]⟩) (.slice (some ⟨w.heap.size + 1, 0, none⟩) 2 2) (.slice none 0 0)).heap[k1]? = w1.heap[k1]? := fun k1 h1 => set6_block _ _ _ _ _ _ _ _ k1 h1
  have hsz := set6_size w1 w.heap.size (.int .i64 5) (.bool false) (.int .i64 0) (.string ⟨#[]⟩) (.slice (some ⟨w.heap.size + 1, 0, none⟩) 2 2) (.slice none 0 0)
  have hof := set6_below B1 w.heap.size (Nat.le_refl _) (.int .i64 5) (.bool false) (.int .i64 0) (.string ⟨#[]⟩) (.slice (some ⟨w.heap.size + 1, 0, none⟩) 2 2) (.slice none 0 0)
  obtain ⟨wf, hwf⟩ : ∃ wf, set6 w1 w.heap.size (.int .i64 5) (.bool false) (.int .i64 0) (.string ⟨#[]⟩) (.slice (some ⟨w.heap.size + 1, 0, none⟩) 2 2) (.slice none 0 0) = wf := ⟨_, rfl⟩
  rw [hwf] at hro hkeep hsz hof ⊢
  clear hwf
  have o0 := cell_of_row wf _ 0 _ _ _ hro
  have o1 := cell_of_row wf _ 1 _ _ _ hro
  have o2 := cell_of_row wf _ 2 _ _ _ hro
  have o3 := cell_of_row wf _ 3 _ _ _ hro
  have o4 := cell_of_row wf _ 4 _ _ _ hro
  have o5 := cell_of_row wf _ 5 _ _ _ hro
  exact bodyPost_ret (v := .agg #[.int .i64 5, .bool false, .int .i64 0, .string ⟨#[]⟩, .slice (some ⟨w.heap.size + 1, 0, none⟩) 2 2, .slice none 0 0]) (by simp [results, Try.results31, go_sem, o0, o1, o2, o3, o4, o5]) rfl ⟨w.heap.size + 1, A', rfl, by omega, fun i hi => (H6.out i hi).kept (hkeep _ (by omega)), hof⟩
end Go.Proofs.Ytjmjlijmeahmfaa
