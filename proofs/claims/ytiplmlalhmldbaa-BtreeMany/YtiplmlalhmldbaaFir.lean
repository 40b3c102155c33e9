/- The laws' first: how many keys are gone over, when one stops behind so many. -/
import Derived.Test.YtiplmlalhmldbaaSpm
namespace Go.Proofs.Ytiplmlalhmldbaa
open Go.RowKit Go.Shelf
attribute [local go_sem] Oper.semAt_some
set_option maxRecDepth 100000 in
set_option maxHeartbeats 4000000 in
theorem first_any {h : Nat} {t : Nd h} (ok : Ok h t) (n b : Nat) (lo hi : ByteArray) (stop : Nat) (hs0 : 0 < stop) (hs9 : stop ≤ 1000) (w : World) (T : Tr w b h t n) :
    Calls Try.prog 22 #[.pointer (some ⟨b, 0, none⟩), .agg #[.string lo, .string hi], .int .i64 (stop : Int)] w fun e w' => e = .returned (.int .i64 ((min stop (spT h t lo hi).length : Nat) : Int)) ∧ Below w.heap.size w w' := by
  obtain ⟨p, c, q, d, hrow, hL⟩ := T.ex
  obtain ⟨SP, hSP⟩ : ∃ SP, spT h t lo hi = SP := ⟨_, rfl⟩
  obtain ⟨w3, hw3⟩ : ∃ w3, (((w.alloc (.cells #[.string lo, .string hi] 24)).alloc (.cells #[.int .i64 (stop : Int)] 3)).alloc (.cells #[.int .i64 0] 3)).setCell ⟨w.heap.size + 1 + 1, 0, none⟩ (.int .i64 0) = w3 := ⟨_, rfl⟩
  have hb3 : Below w.heap.size w w3 := by rw [← hw3]; exact ((((Below.refl _ w).alloc (Nat.le_refl _) _).alloc (by simp) _).alloc (by simp; omega) _).setCell (p := ⟨w.heap.size + 1 + 1, 0, none⟩) (by simp; omega) _
  have hs3 : w3.heap.size = w.heap.size + 3 := by rw [← hw3]; simp [World.setCell]
  have r0 : w3.heap[w.heap.size]? = some (.cells #[.string lo, .string hi] 24 (0, 0)) := by
    rw [← hw3, sc_other (by omega), Below.heap_alloc _ _ _ (by simp; omega), Below.heap_alloc _ _ _ (by simp)]; exact heap_alloc_new _ _
  have r1 : w3.heap[w.heap.size + 1]? = some (.cells #[.int .i64 (stop : Int)] 3 (0, 0)) := by
    rw [← hw3, sc_other (by omega), Below.heap_alloc _ _ _ (by simp)]
    have := heap_alloc_new (w.alloc (.cells #[.string lo, .string hi] 24)) (.cells #[.int .i64 (stop : Int)] 3)
    simpa using this
  have r2 : w3.heap[w.heap.size + 1 + 1]? = some (.cells #[.int .i64 0] 3 (0, 0)) := by
    rw [← hw3]
    have := heap_alloc_new ((w.alloc (.cells #[.string lo, .string hi] 24)).alloc (.cells #[.int .i64 (stop : Int)] 3)) (.cells #[.int .i64 0] 3)
    have h2 : (((w.alloc (.cells #[.string lo, .string hi] 24)).alloc (.cells #[.int .i64 (stop : Int)] 3)).alloc (.cells #[.int .i64 0] 3)).heap[w.heap.size + 1 + 1]? = some (.cells #[.int .i64 0] 3 (0, 0)) := by simpa using this
    exact heap_setCell_same _ _ 0 _ _ _ h2
  have c0 := cell_of_row w3 _ 0 _ _ _ r0
  have c1 := cell_of_row w3 _ 1 _ _ _ r0
  have kr := range_tree p _ c q _ d _ b lo hi w3 ((hb3.block _ (lt_of_row hrow)).trans hrow)
  rw [hSP]
  have hSEQ : ∀ bn bs W, Below w.heap.size w W → W.heap[bn]? = some (.cells #[.slice p (its h t).length c, .slice q (kdn h t) d] 59 (0, 0)) → W.heap[bs]? = some (.cells #[.string lo, .string hi] 24 (0, 0)) → SeqB Try.prog 38 #[.pointer (some ⟨bn, 0, none⟩), .pointer (some ⟨bs, 0, none⟩)] (fun x : Im => #[.string x.1, .string x.2]) SP (fun k => k < w.heap.size ∨ k = bn ∨ k = bs) W := fun bn bs W hb h1 h2 => hSP ▸ span_seq lo hi ok hL hb h1 h2
  clear hSP hL hrow T ok
  obtain ⟨N, hN⟩ : ∃ N, min stop SP.length = N := ⟨_, rfl⟩
  rw [hN]
  have HN : Hid (min stop SP.length = N) := hN
  clear hN
  refine (callsIn_wide (n := 0)).1 ?_
  refine callsIn_of_wp_marks Try.func22 rfl trivial ?_ rfl
  simp only [Try.ntmps22, List.size_toArray, List.length_cons, List.length_nil, Nat.reduceAdd, Nat.reduceSub, Array.replicate_succ, Array.replicate_zero, List.push_toArray, List.append_toArray, List.nil_append, List.cons_append]
  gi_wp2_with fail
  refine ⟨trivial, rfl, ?_⟩
  refine (callsIn_wide.2 kr).mono ?_
  rintro e w4 ⟨bn, bs, rfl, hn1, hn2, rn, rs, hb4⟩
  have q0 := (hb4.block _ (lt_of_row r0)).trans r0
  have q1 := (hb4.block _ (lt_of_row r1)).trans r1
  have q2 := (hb4.block _ (lt_of_row r2)).trans r2
  have hB4 : Below w.heap.size w w4 := hb3.trans (hb4.mono hb3.size)
  have hseq := hSEQ bn bs w4 hB4 rn rs
  have ln := lt_of_row rn
  have ls := lt_of_row rs
  have l2 := lt_of_row q2
  clear kr c0 c1 r0 r1 r2 hw3 rn rs hSEQ hb3 hb4
  gi_wp2
  refine range_b (gf := 38) (lb := #[.pointer (some ⟨bn, 0, none⟩), .pointer (some ⟨bs, 0, none⟩)]) rfl (enters_of Try.func38 (by kernel_rfl) rfl) hseq (fun _ => rfl) (fun k => k = w.heap.size + 1 + 1)
    (fun k hk => by
      rcases hk with hk | rfl | rfl
      · exact ⟨by omega, by omega⟩
      · exact ⟨ln, by omega⟩
      · exact ⟨ls, by omega⟩) (fun k hk => by omega)
    (fun pre W => W.heap[w.heap.size + 1 + 1]? = some (.cells #[.int .i64 (pre.length : Int)] 3 (0, 0)) ∧ W.heap[w.heap.size + 1]? = some (.cells #[.int .i64 (stop : Int)] 3 (0, 0)) ∧ pre.length < stop ∧ Below w.heap.size w W)
    (fun cd pre W => cd = .exit 0 ∧ W.heap[w.heap.size + 1 + 1]? = some (.cells #[.int .i64 (pre.length : Int)] 3 (0, 0)) ∧ pre.length = stop ∧ Below w.heap.size w W)
    (fun s U V ⟨h0, h1, h2, h3⟩ hb => ⟨(hb.block _ (by omega)).trans h0, (hb.block _ (by omega)).trans h1, h2, h3.trans (hb.mono (by omega))⟩)
    (fun cd s U V ⟨hc, h0, h2, h3⟩ hb => ⟨hc, (hb.block _ (by omega)).trans h0, h2, h3.trans (hb.mono (by omega))⟩) ⟨q2, q1, hs0, hB4⟩
    (fun x => { tmps := #[.pointer (some ⟨b, 0, none⟩), .agg #[.string lo, .string hi], .int .i64 (stop : Int), undef, .pointer (some ⟨w.heap.size, 0, none⟩), .pointer (some ⟨w.heap.size + 1, 0, none⟩), .int .i64 0, .pointer (some ⟨w.heap.size + 1 + 1, 0, none⟩), .pointer (some ⟨b, 0, none⟩), .agg #[.string lo, .string hi], .func (.func 38) #[] #[.pointer (some ⟨bn, 0, none⟩), .pointer (some ⟨bs, 0, none⟩)], .string x.1, .string x.2, undef, undef, undef, undef, undef, undef], defers := [] }) ?assign ?body ?done ?stop
  case assign =>
    intro l x W K hK
    refine wpIn_skip ?_
    show K _ _
    simpa using hK
  case body =>
    rintro l pre x W ⟨h0, h1, h2, h3⟩ hp hsz
    have c0 := cell_of_row W _ 0 _ _ _ h0
    have c1 := cell_of_row W _ 0 _ _ _ h1
    have g0 := frozen_of_row W _ 0 _ _ h0
    have hrow : (W.setCell ⟨w.heap.size + 1 + 1, 0, none⟩ (.int .i64 ((pre.length : Int) + 1))).heap[w.heap.size + 1 + 1]? = some (.cells #[.int .i64 ((pre.length : Int) + 1)] 3 (0, 0)) := heap_setCell_same W _ 0 _ _ _ h0
    have hrow1 : (W.setCell ⟨w.heap.size + 1 + 1, 0, none⟩ (.int .i64 ((pre.length : Int) + 1))).heap[w.heap.size + 1]? = some (.cells #[.int .i64 (stop : Int)] 3 (0, 0)) := by rw [sc_other (by omega)]; exact h1
    have d0 := cell_of_row _ _ 0 _ _ _ hrow
    have d1 := cell_of_row _ _ 0 _ _ _ hrow1
    have hl : ((pre ++ [x]).length : Int) = (pre.length : Int) + 1 := by simp
    have hw1 : IntKind.i64.wrap ((pre.length : Int) + 1) = (pre.length : Int) + 1 := by rw [IntKind.wrap_i64]; omega
    have hkc : KC (fun k => k = w.heap.size + 1 + 1) W (W.setCell ⟨w.heap.size + 1 + 1, 0, none⟩ (.int .i64 ((pre.length : Int) + 1))) := KC.setCell (C := fun k => k = w.heap.size + 1 + 1) (KC.of (Below.refl _ W)) (b := w.heap.size + 1 + 1) (o := 0) rfl _
    have hbl : Below w.heap.size w (W.setCell ⟨w.heap.size + 1 + 1, 0, none⟩ (.int .i64 ((pre.length : Int) + 1))) := h3.setCell (p := ⟨w.heap.size + 1 + 1, 0, none⟩) (by simp; omega) _
    have HRW : Hid ((W.setCell ⟨w.heap.size + 1 + 1, 0, none⟩ (.int .i64 ((pre.length : Int) + 1))).heap[w.heap.size + 1 + 1]? = some (.cells #[.int .i64 ((pre ++ [x]).length : Int)] 3 (0, 0))) := by unfold Hid; rw [hl]; exact hrow
    have HR1 : Hid (_ = _) := hrow1
    have HL : Hid (((pre ++ [x]).length : Int) = (pre.length : Int) + 1) := hl
    clear hrow hrow1 hl hp hseq
    by_cases hge : stop ≤ pre.length + 1
    · have hge' : (stop : Int) ≤ (pre.length : Int) + 1 := by omega
      gi_wp2
      exact ⟨hkc, rfl, HRW.out, by have := HL.out; omega, hbl⟩
    · have hge' : ¬ (stop : Int) ≤ (pre.length : Int) + 1 := by omega
      gi_wp2
      exact ⟨hkc, HRW.out, HR1.out, by have := HL.out; omega, hbl⟩
  case done =>
    rintro W ⟨h0, h1, h2, h3⟩ hkc hD
    have c0 := cell_of_row W _ 0 _ _ _ h0
    have hm : min stop SP.length = SP.length := by omega
    have HM := HN.out.symm.trans hm
    subst HM
    have HD : Hid (W.heap[w4.heap.size]? = some (.deferred (some []))) := hD
    clear hD hseq
    gi_wp2
    refine ⟨by simp, .inl ⟨_, _, rfl, run_takeDeferred HD.out, ?_⟩⟩
    exact ⟨.int .i64 (SP.length : Int), by simp [results, Try.results22, go_sem], rfl, h3.trans (putObj_below _ _ (by omega))⟩
  case stop =>
    rintro cd pre W hp ⟨rfl, h0, h2, h3⟩ hkc hD
    have c0 := cell_of_row W _ 0 _ _ _ h0
    have hpl := hp.length_le
    have hm : min stop SP.length = pre.length := by omega
    have HM := HN.out.symm.trans hm
    subst HM
    have HD : Hid (W.heap[w4.heap.size]? = some (.deferred (some []))) := hD
    clear hD hseq hp
    gi_wp2
    refine ⟨by simp, .inl ⟨_, _, rfl, run_takeDeferred HD.out, ?_⟩⟩
    exact ⟨.int .i64 (pre.length : Int), by simp [results, Try.results22, go_sem, h2], rfl, h3.trans (putObj_below _ _ (by omega))⟩
end Go.Proofs.Ytiplmlalhmldbaa
