/- The document's part of a struct with a name (its Get). -/
import Derived.Test.YtjmjlijmeahmfaaRsm
import Derived.Test.YtjmjlijmeahmfaaMine
import Derived.Lib.SlicesS
namespace Go.Proofs.Ytjmjlijmeahmfaa
open Go.RowKit
set_option maxRecDepth 20000 in
set_option maxHeartbeats 4000000 in
theorem rget_any {B : Nat} {w : World} {b : Bool} {n : Int} {s : ByteArray} {m : Nat} {f : Nat → Tr} {q : Nat} {g : Nat → ByteArray} {x : Ad} (hL : Lies B w (.mk 6 b n s m f q g) x) (hB : B ≤ w.heap.size) (hqm : q ≤ m) (nm : ByteArray) :
    Calls Try.prog 29 #[(Tr.mk 6 b n s m f q g).val x, .string nm] w fun e w' => ((∃ i, i < q ∧ g i = nm ∧ (∀ j, j < i → g j ≠ nm) ∧ ∃ A : Ad, e = .returned ((f i).val A) ∧ Lies B w' (f i) A) ∨ ((∀ j, j < q → g j ≠ nm) ∧ e = .returned (.agg #[.int .i64 0, .bool false, .int .i64 0, .string ⟨#[]⟩, .slice none 0 0, .slice none 0 0]))) ∧ Below w.heap.size w w' := by
  obtain ⟨A, hp, hr⟩ := hL.part
  have hN : Names B w q g x.na x.nc := hL.lims.2.2.2.2
  obtain ⟨pa, pc, na, nc⟩ := x
  obtain ⟨hq1, hq2, _, hna⟩ := hN
  have hqmax : (q : Int) ≤ 9223372036854775807 := by have := hq1; unfold maxLen at hq2; omega
  clear hL hq1 hq2
  show Calls Try.prog 29 #[.agg #[.int .i64 6, .bool b, .int .i64 n, .string s, .slice pa m pc, .slice na q nc], .string nm] w _
  have HP : Hid (0 < m → ∃ b o, pa = some ⟨b, o, none⟩ ∧ b < B ∧ ∀ i, i < m → At6 w b (o + i * 6) (f i) (A i)) := hp
  have HR : Hid (∀ i, i < m → Lies B w (f i) (A i)) := hr
  have HN : Hid (0 < q → ∃ b o, na = some ⟨b, o, none⟩ ∧ b < B ∧ ∀ i, i < q → w.cell? ⟨b, o + i, none⟩ = some (.string (g i))) := hna
  clear hp hr hna
  go_enter Try.func29, Try.ntmps29
  go_wp2_with fail
  go_loopw [5] (fun c5 wr => ∃ i : Nat, i ≤ q ∧ c5 = .int .i64 (i : Int) ∧ (∀ j, j < i → g j ≠ nm) ∧ wr.heap[w.heap.size]? = some (.cells #[.int .i64 6, .bool b, .int .i64 n, .string s, .slice pa m pc, .slice na q nc] 33 (0, 0)) ∧ wr.heap[w.heap.size + 1]? = some (.cells #[.int .i64 0, .bool false, .int .i64 0, .string ⟨#[]⟩, .slice none 0 0, .slice none 0 0] 33 (0, 0)) ∧ Below w.heap.size w wr) (fun c5 _ => q - (intOf c5).toNat)
  case atStart =>
    refine ⟨0, by omega, rfl, fun j hj => absurd hj (Nat.not_lt_zero j), (Below.heap_alloc _ _ _ (by simp)).trans (heap_alloc_new _ _), ?_, ((Below.refl _ w).alloc (Nat.le_refl _) _).alloc (by simp) _⟩
    have := heap_alloc_new (w.alloc (.cells #[.int .i64 6, .bool b, .int .i64 n, .string s, .slice pa m pc, .slice na q nc] 33)) (.cells #[.int .i64 0, .bool false, .int .i64 0, .string ⟨#[]⟩, .slice none 0 0, .slice none 0 0] 33)
    simpa using this
  case round =>
    obtain ⟨i, hi, rfl, hj, hr2, hr4, hbr⟩ := hrel
    have HJ : Hid (∀ j, j < i → g j ≠ nm) := hj
    clear hj
    have c0 := cell_of_row wr _ 0 _ _ _ hr2
    have c4 := cell_of_row wr _ 4 _ _ _ hr2
    have c5 := cell_of_row wr _ 5 _ _ _ hr2
    have a0 := cell_of_row wr _ 0 _ _ _ hr4
    have a1 := cell_of_row wr _ 1 _ _ _ hr4
    have a2 := cell_of_row wr _ 2 _ _ _ hr4
    have a3 := cell_of_row wr _ 3 _ _ _ hr4
    have a4 := cell_of_row wr _ 4 _ _ _ hr4
    have a5 := cell_of_row wr _ 5 _ _ _ hr4
    have z0 := frozen_of_row wr _ 0 _ _ hr4
    have z1 := frozen_of_row wr _ 1 _ _ hr4
    have z2 := frozen_of_row wr _ 2 _ _ hr4
    have z3 := frozen_of_row wr _ 3 _ _ hr4
    have z4 := frozen_of_row wr _ 4 _ _ hr4
    have z5 := frozen_of_row wr _ 5 _ _ hr4
    have hl4 := lt_of_row hr4
    by_cases hiq : i < q
    · have hiq' : (i : Int) < (q : Int) := by omega
      have him' : (i : Int) < (m : Int) := by omega
      obtain ⟨nb, no, rfl, hnb, hnc⟩ := HN.out (by omega)
      have hnm := cell_later (hnc i hiq) (by show nb < w.heap.size; omega) hbr
      obtain ⟨pb, po, rfl, hpb, hat⟩ := HP.out (by omega)
      have h6 := (hat i (by omega)).later hpb (hbr.mono hB)
      have e0 := h6.c0
      have e1 := h6.c1
      have e2 := h6.c2
      have e3 := h6.c3
      have e4 := h6.c4
      have e5 := h6.c5
      clear hnc hat h6
      by_cases hg : g i = nm
      · have HEQ : Hid (g i = nm) := hg
        have hge : ((g i).toList == nm.toList) = true := by rw [hg]; simp
        clear hg
        go_wp2
        change bodyPost _ _ _ _ _ (set6 wr (w.heap.size + 1) (.int .i64 (f i).k) (.bool (f i).b) (.int .i64 (f i).n) (.string (f i).s) (.slice (A i).pa (f i).m (A i).pc) (.slice (A i).na (f i).q (A i).nc))
        have hro := set6_row hr4 (.int .i64 (f i).k) (.bool (f i).b) (.int .i64 (f i).n) (.string (f i).s) (.slice (A i).pa (f i).m (A i).pc) (.slice (A i).na (f i).q (A i).nc)
        have hbf := set6_below hbr (w.heap.size + 1) (by omega) (.int .i64 (f i).k) (.bool (f i).b) (.int .i64 (f i).n) (.string (f i).s) (.slice (A i).pa (f i).m (A i).pc) (.slice (A i).na (f i).q (A i).nc)
        have hL9 : Lies B (set6 wr (w.heap.size + 1) (.int .i64 (f i).k) (.bool (f i).b) (.int .i64 (f i).n) (.string (f i).s) (.slice (A i).pa (f i).m (A i).pc) (.slice (A i).na (f i).q (A i).nc)) (f i) (A i) := LiesS.kept (fun k hk => set6_block wr (w.heap.size + 1) _ _ _ _ _ _ k (by omega)) (Lies.later (hbr.mono hB) (HR.out i (by omega)))
        obtain ⟨wf, hwf⟩ : ∃ wf, set6 wr (w.heap.size + 1) (.int .i64 (f i).k) (.bool (f i).b) (.int .i64 (f i).n) (.string (f i).s) (.slice (A i).pa (f i).m (A i).pc) (.slice (A i).na (f i).q (A i).nc) = wf := ⟨_, rfl⟩
        rw [hwf] at hro hbf hL9 ⊢
        clear hwf
        have o0 := cell_of_row wf _ 0 _ _ _ hro
        have o1 := cell_of_row wf _ 1 _ _ _ hro
        have o2 := cell_of_row wf _ 2 _ _ _ hro
        have o3 := cell_of_row wf _ 3 _ _ _ hro
        have o4 := cell_of_row wf _ 4 _ _ _ hro
        have o5 := cell_of_row wf _ 5 _ _ _ hro
        refine bodyPost_ret (v := .agg #[(.int .i64 (f i).k), (.bool (f i).b), (.int .i64 (f i).n), (.string (f i).s), (.slice (A i).pa (f i).m (A i).pc), (.slice (A i).na (f i).q (A i).nc)]) (by simp [results, Try.results29, go_sem, o0, o1, o2, o3, o4, o5]) rfl ?_
        exact ⟨Or.inl ⟨i, by omega, HEQ.out, HJ.out, A i, rfl, hL9⟩, hbf⟩
      · have hge : ((g i).toList == nm.toList) = false := (Lib.bytes_beq_false_iff _ _).2 hg
        have HNE : Hid (g i ≠ nm) := hg
        clear hg
        go_wp2
        go_roundw
        case rel =>
          refine ⟨i + 1, by omega, by go_num, fun j hj => ?_, hr2, hr4, hbr⟩
          rcases Nat.lt_or_ge j i with k1 | k1
          · exact HJ.out j k1
          · obtain rfl : j = i := by omega
            exact HNE.out
        case measure => simp [intOf]; omega
    · obtain rfl : i = q := by omega
      go_wp2
      change bodyPost _ _ _ _ _ (set6 wr (w.heap.size + 1) (.int .i64 0) (.bool false) (.int .i64 0) (.string ⟨#[]⟩) (.slice none 0 0) (.slice none 0 0))
      have hro := set6_row hr4 (.int .i64 0) (.bool false) (.int .i64 0) (.string ⟨#[]⟩) (.slice none 0 0) (.slice none 0 0)
      have hbf := set6_below hbr (w.heap.size + 1) (by omega) (.int .i64 0) (.bool false) (.int .i64 0) (.string ⟨#[]⟩) (.slice none 0 0) (.slice none 0 0)
      obtain ⟨wf, hwf⟩ : ∃ wf, set6 wr (w.heap.size + 1) (.int .i64 0) (.bool false) (.int .i64 0) (.string ⟨#[]⟩) (.slice none 0 0) (.slice none 0 0) = wf := ⟨_, rfl⟩
      rw [hwf] at hro hbf ⊢
      clear hwf
      have o0 := cell_of_row wf _ 0 _ _ _ hro
      have o1 := cell_of_row wf _ 1 _ _ _ hro
      have o2 := cell_of_row wf _ 2 _ _ _ hro
      have o3 := cell_of_row wf _ 3 _ _ _ hro
      have o4 := cell_of_row wf _ 4 _ _ _ hro
      have o5 := cell_of_row wf _ 5 _ _ _ hro
      refine bodyPost_ret (v := .agg #[(.int .i64 0), (.bool false), (.int .i64 0), (.string ⟨#[]⟩), (.slice none 0 0), (.slice none 0 0)]) (by simp [results, Try.results29, go_sem, o0, o1, o2, o3, o4, o5]) rfl ?_
      exact ⟨Or.inr ⟨fun j hj => HJ.out j hj, rfl⟩, hbf⟩
end Go.Proofs.Ytjmjlijmeahmfaa
