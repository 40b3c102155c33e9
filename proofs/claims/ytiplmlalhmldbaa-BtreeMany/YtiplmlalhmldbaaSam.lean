/- The laws' same: a range has just these keys. -/
import Derived.Test.YtiplmlalhmldbaaFir
namespace Go.Proofs.Ytiplmlalhmldbaa
open Go.RowKit Go.Shelf
attribute [local go_sem] Oper.semAt_some
theorem at_pfx {pre ys : List Im} {x : Im} (h : pre ++ [x] <+: ys) : pre.length < ys.length ∧ ys[pre.length]! = x := by
  obtain ⟨r, rfl⟩ := h
  exact ⟨by simp, by simp⟩
set_option maxRecDepth 100000 in
set_option maxHeartbeats 4000000 in
theorem same_any {h : Nat} {t : Nd h} (ok : Ok h t) (n b : Nat) (lo hi : ByteArray) (ys : List Im) (hys : spT h t lo hi = ys) (hyn : ys.length ≤ 1000000) (lp : Option Addr) (lc : Nat) (w : World) (T : Tr w b h t n) (hS : Sl w lp ys.length lc (itC ys)) :
    Calls Try.prog 18 #[.pointer (some ⟨b, 0, none⟩), .agg #[.string lo, .string hi], .slice lp ys.length lc] w fun e w' => e = .returned (.bool true) ∧ Below w.heap.size w w' := by
  obtain ⟨p, c, q, d, hrow, hL⟩ := T.ex
  obtain ⟨w2, hw2⟩ : ∃ w2, ((w.alloc (.cells #[.string lo, .string hi] 24)).alloc (.cells #[.slice lp ys.length lc] 27)).alloc (.cells #[.bool false] 4) = w2 := ⟨_, rfl⟩
  have hb2 : Below w.heap.size w w2 := by rw [← hw2]; exact (((Below.refl _ w).alloc (Nat.le_refl _) _).alloc (by simp) _).alloc (by simp; omega) _
  have hs2 : w2.heap.size = w.heap.size + 3 := by rw [← hw2]; simp
  have r0 : w2.heap[w.heap.size]? = some (.cells #[.string lo, .string hi] 24 (0, 0)) := by
    rw [← hw2, Below.heap_alloc _ _ _ (by simp; omega), Below.heap_alloc _ _ _ (by simp)]; exact heap_alloc_new _ _
  have r1 : w2.heap[w.heap.size + 1]? = some (.cells #[.slice lp ys.length lc] 27 (0, 0)) := by
    rw [← hw2, Below.heap_alloc _ _ _ (by simp)]
    have := heap_alloc_new (w.alloc (.cells #[.string lo, .string hi] 24)) (.cells #[.slice lp ys.length lc] 27)
    simpa using this
  have r2 : w2.heap[w.heap.size + 1 + 1]? = some (.cells #[.bool false] 4 (0, 0)) := by
    rw [← hw2]
    have := heap_alloc_new ((w.alloc (.cells #[.string lo, .string hi] 24)).alloc (.cells #[.slice lp ys.length lc] 27)) (.cells #[.bool false] 4)
    simpa using this
  obtain ⟨w3, hw3⟩ : ∃ w3, (w2.alloc (.cells #[.int .i64 0] 3)).setCell ⟨w.heap.size + 1 + 1 + 1, 0, none⟩ (.int .i64 0) = w3 := ⟨_, rfl⟩
  have hb23 : Below w2.heap.size w2 w3 := by rw [← hw3]; exact ((Below.refl _ w2).alloc (Nat.le_refl _) _).setCell (p := ⟨w.heap.size + 1 + 1 + 1, 0, none⟩) (by simp; omega) _
  have hb3 : Below w.heap.size w w3 := hb2.trans (hb23.mono hb2.size)
  have hs3 : w3.heap.size = w.heap.size + 4 := by rw [← hw3]; simp [World.setCell, hs2]
  have r3 : w3.heap[w.heap.size + 1 + 1 + 1]? = some (.cells #[.int .i64 0] 3 (0, 0)) := by
    rw [← hw3]
    have h2 : (w2.alloc (.cells #[.int .i64 0] 3)).heap[w.heap.size + 1 + 1 + 1]? = some (.cells #[.int .i64 0] 3 (0, 0)) := by
      have := heap_alloc_new w2 (.cells #[.int .i64 0] 3)
      rw [hs2] at this
      exact this
    exact heap_setCell_same _ _ 0 _ _ _ h2
  have q0 := (hb23.block _ (lt_of_row r0)).trans r0
  have q1 := (hb23.block _ (lt_of_row r1)).trans r1
  have q2 := (hb23.block _ (lt_of_row r2)).trans r2
  have c0 := cell_of_row w3 _ 0 _ _ _ q0
  have c1 := cell_of_row w3 _ 1 _ _ _ q0
  have hsz2 : w2.heap.size = w.heap.size + 1 + 1 + 1 := hs2
  have kr := range_tree p _ c q _ d _ b lo hi w3 ((hb3.block _ (lt_of_row hrow)).trans hrow)
  have hSEQ : ∀ bn bs W, Below w.heap.size w W → W.heap[bn]? = some (.cells #[.slice p (its h t).length c, .slice q (kdn h t) d] 59 (0, 0)) → W.heap[bs]? = some (.cells #[.string lo, .string hi] 24 (0, 0)) → SeqB Try.prog 38 #[.pointer (some ⟨bn, 0, none⟩), .pointer (some ⟨bs, 0, none⟩)] (fun x : Im => #[.string x.1, .string x.2]) ys (fun k => k < w.heap.size ∨ k = bn ∨ k = bs) W := fun bn bs W hb h1 h2 => hys ▸ span_seq lo hi ok hL hb h1 h2
  clear hys hL hrow T ok r0 r1 r2
  refine (callsIn_wide (n := 0)).1 ?_
  refine callsIn_of_wp_marks Try.func18 rfl trivial ?_ rfl
  simp only [Try.ntmps18, List.size_toArray, List.length_cons, List.length_nil, Nat.reduceAdd, Nat.reduceSub, Array.replicate_succ, Array.replicate_zero, List.push_toArray, List.append_toArray, List.nil_append, List.cons_append]
  gi_wp2_with fail
  refine ⟨trivial, rfl, ?_⟩
  refine (callsIn_wide.2 kr).mono ?_
  rintro e w4 ⟨bn, bs, rfl, hn1, hn2, rn, rs, hb4⟩
  have s1 := (hb4.block _ (lt_of_row q1)).trans q1
  have s2 := (hb4.block _ (lt_of_row q2)).trans q2
  have s3 := (hb4.block _ (lt_of_row r3)).trans r3
  have hB4 : Below w.heap.size w w4 := hb3.trans (hb4.mono hb3.size)
  have hseq := hSEQ bn bs w4 hB4 rn rs
  have ln := lt_of_row rn
  have ls := lt_of_row rs
  have l2 := lt_of_row s3
  have hcap := hS.cap
  have hmx : maxLen = 9223372036854775807 := rfl
  clear kr c0 c1 q0 q1 q2 r3 hw3 hw2 rn rs hSEQ hb3 hb4 hb23 hb2
  gi_wp2
  refine range_b (gf := 38) (lb := #[.pointer (some ⟨bn, 0, none⟩), .pointer (some ⟨bs, 0, none⟩)]) rfl (enters_of Try.func38 (by kernel_rfl) rfl) hseq (fun _ => rfl) (fun k => k = w.heap.size + 1 + 1 + 1)
    (fun k hk => by
      rcases hk with hk | rfl | rfl
      · exact ⟨by omega, by omega⟩
      · exact ⟨ln, by omega⟩
      · exact ⟨ls, by omega⟩) (fun k hk => by omega)
    (fun pre W => W.heap[w.heap.size + 1 + 1 + 1]? = some (.cells #[.int .i64 (pre.length : Int)] 3 (0, 0)) ∧ W.heap[w.heap.size + 1]? = some (.cells #[.slice lp ys.length lc] 27 (0, 0)) ∧ W.heap[w.heap.size + 1 + 1]? = some (.cells #[.bool false] 4 (0, 0)) ∧ Below w.heap.size w W)
    (fun _ _ _ => False)
    (fun s U V ⟨h0, h1, h2, h3⟩ hb => ⟨(hb.block _ (by omega)).trans h0, (hb.block _ (by omega)).trans h1, (hb.block _ (by omega)).trans h2, h3.trans (hb.mono (by omega))⟩)
    (fun _ _ _ _ h _ => h) ⟨s3, s1, s2, hB4⟩
    (fun x => { tmps := #[.pointer (some ⟨b, 0, none⟩), .agg #[.string lo, .string hi], .slice lp ys.length lc, undef, .pointer (some ⟨w.heap.size, 0, none⟩), .pointer (some ⟨w.heap.size + 1, 0, none⟩), .pointer (some ⟨w.heap.size + 1 + 1, 0, none⟩), .pointer (some ⟨w.heap.size + 1 + 1 + 1, 0, none⟩), .string x.1, .string x.2, .pointer (some ⟨b, 0, none⟩), .agg #[.string lo, .string hi], .func (.func 38) #[] #[.pointer (some ⟨bn, 0, none⟩), .pointer (some ⟨bs, 0, none⟩)], .string x.1, .string x.2, undef, undef, undef, undef, undef, undef, undef, undef, undef, undef, undef, undef, undef, undef, undef, undef, undef, undef, undef, undef], defers := [] }) ?assign ?body ?done ?stop
  case assign =>
    intro l x W K hK
    gi_wp2
    exact hK
  case body =>
    rintro l pre x W ⟨h0, h1, h2, h3⟩ hp hsz
    obtain ⟨hlt, hat⟩ := at_pfx hp
    obtain ⟨yb, yo, rfl, hyb, hyc⟩ := hS.lies (by omega)
    obtain ⟨y1, y2⟩ := Sl.get hyc hlt
    rw [hat] at y1 y2
    have z1 := (cell_later h3 hyb).trans y1
    have z2 := (cell_later h3 hyb).trans y2
    have c0 := cell_of_row W _ 0 _ _ _ h0
    have c1 := cell_of_row W _ 0 _ _ _ h1
    have g0 := frozen_of_row W _ 0 _ _ h0
    have hl : ((pre ++ [x]).length : Int) = (pre.length : Int) + 1 := by simp
    have hw1 : IntKind.i64.wrap ((pre.length : Int) + 1) = (pre.length : Int) + 1 := by rw [IntKind.wrap_i64]; omega
    have hkc : KC (fun k => k = w.heap.size + 1 + 1 + 1) W (W.setCell ⟨w.heap.size + 1 + 1 + 1, 0, none⟩ (.int .i64 ((pre.length : Int) + 1))) := KC.setCell (C := fun k => k = w.heap.size + 1 + 1 + 1) (KC.of (Below.refl _ W)) (b := w.heap.size + 1 + 1 + 1) (o := 0) rfl _
    have HB : Hid (Below w.heap.size w (W.setCell ⟨w.heap.size + 1 + 1 + 1, 0, none⟩ (.int .i64 ((pre.length : Int) + 1)))) := h3.setCell (p := ⟨w.heap.size + 1 + 1 + 1, 0, none⟩) (by simp; omega) _
    have HRW : Hid ((W.setCell ⟨w.heap.size + 1 + 1 + 1, 0, none⟩ (.int .i64 ((pre.length : Int) + 1))).heap[w.heap.size + 1 + 1 + 1]? = some (.cells #[.int .i64 ((pre ++ [x]).length : Int)] 3 (0, 0))) := by unfold Hid; rw [hl]; exact heap_setCell_same W _ 0 _ _ _ h0
    have HR1 : Hid ((W.setCell ⟨w.heap.size + 1 + 1 + 1, 0, none⟩ (.int .i64 ((pre.length : Int) + 1))).heap[w.heap.size + 1]? = some (.cells #[.slice (some ⟨yb, yo, none⟩) ys.length lc] 27 (0, 0))) := by unfold Hid; rw [sc_other (by omega)]; exact h1
    have HR2 : Hid ((W.setCell ⟨w.heap.size + 1 + 1 + 1, 0, none⟩ (.int .i64 ((pre.length : Int) + 1))).heap[w.heap.size + 1 + 1]? = some (.cells #[.bool false] 4 (0, 0))) := by unfold Hid; rw [sc_other (by omega)]; exact h2
    have hlt' : (pre.length : Int) < (ys.length : Int) := by omega
    clear hp hseq hl hat y1 y2 hyc h1 h2
    gi_wp2
    exact ⟨hkc, HRW.out, HR1.out, HR2.out, HB.out⟩
  case done =>
    rintro W ⟨h0, h1, h2, h3⟩ hkc hD
    have c0 := cell_of_row W _ 0 _ _ _ h0
    have c1 := cell_of_row W _ 0 _ _ _ h1
    have c2 := cell_of_row W _ 0 _ _ _ h2
    have g2 := frozen_of_row W _ 0 _ _ h2
    have hD2 : (W.setCell ⟨w.heap.size + 1 + 1, 0, none⟩ (.bool true)).heap[w4.heap.size]? = some (.deferred (some [])) := by rw [sc_other (by omega)]; exact hD
    have HD : Hid ((W.setCell ⟨w.heap.size + 1 + 1, 0, none⟩ (.bool true)).heap[w4.heap.size]? = some (.deferred (some []))) := hD2
    clear hD hD2 hseq
    gi_wp2
    refine ⟨by simp, .inl ⟨_, _, rfl, run_takeDeferred HD.out, ?_⟩⟩
    have hrow : ((W.setCell ⟨w.heap.size + 1 + 1, 0, none⟩ (.bool true)).putObj w4.heap.size (.deferred none)).heap[w.heap.size + 1 + 1]? = some (.cells #[.bool true] 4 (0, 0)) := by
      rw [World.putObj_heap_other (by omega)]
      exact heap_setCell_same W _ 0 _ _ _ h2
    have hcell := cell_of_row _ _ 0 _ _ _ hrow
    refine ⟨.bool true, by simp [results, Try.results18, go_sem, hcell], rfl, ?_⟩
    exact (h3.setCell (p := ⟨w.heap.size + 1 + 1, 0, none⟩) (by simp; omega) _).trans (putObj_below _ _ (by omega))
  case stop =>
    rintro cd pre W _ h
    exact h.elim
end Go.Proofs.Ytiplmlalhmldbaa
