/- Lists and structs (list, structure). Structs (structure). -/
import Derived.Test.YtfemippjaokcmaaGreatDoorXaj
namespace Go.Proofs.YtfemippjaokcmaaGreatDoor
open Go.RowKit Go.Shelf
attribute [local go_sem] Oper.semAt_some fw0 fw1 fw2
theorem els_deep {w : World} {S : Nat → Prop} : ∀ {l : List Et} {L : List Value}, Els EExp w S l L → ∃ d, ∀ i x, l[i]? = some x → LiesE w S d x (row10 fun j => L.getD (i * 10 + j) undef)
  | [], _, _ => ⟨0, fun i x h => by simp at h⟩
  | y :: l, _, ⟨c, r, h1, ⟨d1, h2⟩, h3⟩ => by
    obtain ⟨d2, hd⟩ := els_deep h3
    have hlen := eExp.len ⟨d1, h2⟩
    subst h1
    refine ⟨max d1 d2, fun i x hi => ?_⟩
    cases i with
    | zero =>
      have e : y = x := by simpa using hi
      subst e
      refine LiesE.mono (Nat.le_max_left _ _) ?_
      match c, hlen with
      | [a0, a1, a2, a3, a4, a5, a6, a7, a8, a9], _ => exact h2
    | succ i =>
      have h := (hd i x (by simpa using hi)).mono (Nat.le_max_right d1 d2)
      have e : (fun j => (c ++ r).getD ((i + 1) * 10 + j) undef) = fun j => r.getD (i * 10 + j) undef := by
        funext j
        rw [List.getD_eq_getElem?_getD, List.getD_eq_getElem?_getD, List.getElem?_append_right (by omega), hlen]
        have e2 : (i + 1) * 10 + j - 10 = i * 10 + j := by omega
        rw [e2]
      rw [e]
      exact h
theorem getD_at {l : List Et} {i : Nat} (h : i < l.length) (z : Et) : l[i]? = some (l.getD i z) := by
  rw [List.getD_eq_getElem?_getD, List.getElem?_eq_getElem h]
  rfl
/- Kids out of a list of one's own. -/
theorem kds_own {w : World} {base : Nat} {v : Value} {l : List Et} {L : List Value} {S : Nat → Prop} (h : w.ownsRow base 28 10 v l.length L) (hE : Els EExp w S l L) (hS : ∀ k, S k → base ≤ k) : ∃ kp kc, v = .slice kp l.length kc ∧ Kds w (fun k => base ≤ k) kp l.length kc (fun i j => L.getD (i * 10 + j) undef) ∧ ∃ d, ∀ i, i < l.length → LiesE w (fun k => base ≤ k) d (l.getD i zeroT) (row10 fun j => L.getD (i * 10 + j) undef) := by
  obtain ⟨d, hd⟩ := els_deep hE
  have hd' : ∀ i, i < l.length → LiesE w (fun k => base ≤ k) d (l.getD i zeroT) (row10 fun j => L.getD (i * 10 + j) undef) := fun i hi => (hd i _ (getD_at hi _)).imp fun k hk _ => hS k hk
  rcases h.2 with ⟨hv, hn⟩ | ⟨g, cap, cur, hv, hg, hr, h1, h2, h3, h4⟩
  · refine ⟨none, 0, by rw [hv, hn], ?_, d, hd'⟩
    rw [hn]
    exact Kds.none _ _ _
  · refine ⟨_, _, hv, ⟨⟨h1, h2⟩, fun _ => ⟨g, 0, rfl, hg, lt_of_row hr, fun i hi j hj => ?_⟩⟩, d, hd'⟩
    rw [cell_of_row w g _ cur _ _ hr]
    have hlt : i * 10 + j < L.length := by rw [h.1]; omega
    have e : L[i * 10 + j]? = some (L.getD (i * 10 + j) undef) := by
      rw [List.getD_eq_getElem?_getD, List.getElem?_eq_getElem hlt]; rfl
    rw [← e, ← h4, List.getElem?_take]
    have hlt2 : i * 10 + j < l.length * 10 := by rw [← h.1]; exact hlt
    rw [if_pos hlt2]
    simp
theorem nms_own {w : World} {base : Nat} {v : Value} {l : List ByteArray} {L : List Value} {S : Nat → Prop} (h : w.ownsRow base 9 1 v l.length L) (hE : Els EStr w S l L) : ∃ kp kc, v = .slice kp l.length kc ∧ Nms w (fun k => base ≤ k) kp l.length kc (fun i => l.getD i ⟨#[]⟩) := by
  rcases h.2 with ⟨hv, hn⟩ | ⟨g, cap, cur, hv, hg, hr, h1, h2, h3, h4⟩
  · refine ⟨none, 0, by rw [hv, hn], ?_⟩
    rw [hn]
    exact Nms.none _ _ _
  · refine ⟨_, _, hv, ⟨h1, h2⟩, fun _ => ⟨g, 0, rfl, hg, lt_of_row hr, fun i hi => ?_⟩⟩
    obtain ⟨c, hc, hk⟩ := Els.at eStr hE i (l.getD i ⟨#[]⟩) (by rw [List.getD_eq_getElem?_getD, List.getElem?_eq_getElem hi]; rfl)
    have hc' : c = [.string (l.getD i ⟨#[]⟩)] := hc
    have e := hk 0 _ (by rw [hc']; rfl)
    rw [Nat.mul_one, Nat.add_zero, ← h4, List.getElem?_take] at e
    rw [Nat.zero_add, cell_of_row w g i cur _ _ hr]
    split at e
    · simpa using e
    · cases e
theorem Pk.exb {ws : List Wd} {s t : PS} {c e : Nat} (h : Pk c e ws s t) (hf : ws.length ≤ 3000) : t.ex ≤ s.ex + 3000 := by
  have a := h.ex
  have b := h.lt
  omega
set_option maxRecDepth 100000 in
set_option maxHeartbeats 8000000 in
theorem list_any {w : World} {b : Nat} {p : Option Addr} {c : Nat} {ws : List Wd} {s : PS} (H : Ps w b p c ws s) (hz : Wz ws) (hex : s.ex ≤ 700000) (F : PS → Et × PS) (hF : ∀ u, u.at' < ws.length → Pk 0 0 ws u (F u).2)
    (kb : ∀ W u, Ps W b p c ws u → Pk 0 0 ws s u → Calls Tryz.prog 120 #[.pointer (some ⟨b, 0, none⟩)] W (Gives ws (fun k => W.heap.size ≤ k) W b p c (F u))) :
    Calls Tryz.prog 183 #[.pointer (some ⟨b, 0, none⟩)] w (Gives ws (fun k => w.heap.size ≤ k) w b p c (listF ws F s)) := by
  have hold := H.old
  have lb := lt_of_row H.row
  have few := H.few
  obtain ⟨w2, hw2⟩ : ∃ w2, put ((w.alloc (.cells #[.int .i64 0, .string ⟨#[]⟩, .int .i64 0, .bool false, .int .i64 0, .string ⟨#[]⟩, .slice none 0 0, .slice none 0 0, .slice none 0 0, .slice none 0 0] 28)).alloc (.cells #[.int .i64 0, .string ⟨#[]⟩, .int .i64 0, .bool false, .int .i64 0, .string ⟨#[]⟩, .slice none 0 0, .slice none 0 0, .slice none 0 0, .slice none 0 0] 28)) (w.heap.size + 1) #[.int .i64 7, .string ⟨#[]⟩, .int .i64 0, .bool false, .int .i64 0, .string ⟨#[]⟩, .slice none 0 0, .slice none 0 0, .slice none 0 0, .slice none 0 0] = w2 := ⟨_, rfl⟩
  have ra : ((w.alloc (.cells #[.int .i64 0, .string ⟨#[]⟩, .int .i64 0, .bool false, .int .i64 0, .string ⟨#[]⟩, .slice none 0 0, .slice none 0 0, .slice none 0 0, .slice none 0 0] 28)).alloc (.cells #[.int .i64 0, .string ⟨#[]⟩, .int .i64 0, .bool false, .int .i64 0, .string ⟨#[]⟩, .slice none 0 0, .slice none 0 0, .slice none 0 0, .slice none 0 0] 28)).heap[w.heap.size + 1]? = some (.cells zero10 28 (0, 0)) := two_new _ _ _
  have hb2 : Below w.heap.size w w2 := by rw [← hw2]; exact put_below (((Below.refl _ w).alloc (Nat.le_refl _) _).alloc (by simp) _) _ (Nat.le_succ _) _
  have hs2 : w2.heap.size = w.heap.size + 1 + 1 := by rw [← hw2, put_size]; simp
  have rx2 : w2.heap[w.heap.size + 1]? = some (.cells #[.int .i64 7, .string ⟨#[]⟩, .int .i64 0, .bool false, .int .i64 0, .string ⟨#[]⟩, .slice none 0 0, .slice none 0 0, .slice none 0 0, .slice none 0 0] 28 (0, 0)) := by rw [← hw2]; exact put_row _ ra rfl
  have rz2 : w2.heap[w.heap.size]? = some (.cells zero10 28 (0, 0)) := by rw [← hw2, put_other (by omega), Below.heap_alloc _ _ _ (by simp)]; exact heap_alloc_new _ _
  have ki := is_any (H.later hb2) 6 ⟨#[93]⟩
  have hI : isW (wAt ws s.at') 6 ⟨#[93]⟩ = isP (wAt ws s.at') 6 [93] := isW_isP _ _ _
  rw [hI] at ki
  unfold listF
  have HH : Hid (Ps w b p c ws s ∧ Below w.heap.size w w2 ∧ ((w.alloc (.cells #[.int .i64 0, .string ⟨#[]⟩, .int .i64 0, .bool false, .int .i64 0, .string ⟨#[]⟩, .slice none 0 0, .slice none 0 0, .slice none 0 0, .slice none 0 0] 28)).alloc (.cells #[.int .i64 0, .string ⟨#[]⟩, .int .i64 0, .bool false, .int .i64 0, .string ⟨#[]⟩, .slice none 0 0, .slice none 0 0, .slice none 0 0, .slice none 0 0] 28)).heap[w.heap.size + 1]? = some (.cells zero10 28 (0, 0))) := ⟨H, hb2, ra⟩
  clear hI ra hb2
  by_cases hy : isP (wAt ws s.at') 6 [93] = true
  · rw [if_pos hy]
    rw [hy] at ki
    have HM : Hid (mustP ws s 6 ⟨#[93]⟩ = takeP s) := by
      have h1 := mustP_mustQ ws s 6 [93]
      unfold mustQ at h1
      rw [if_pos hy] at h1
      exact h1
    clear H hy kb hF
    go_enter Tryz.func183, Tryz.ntmps183
    go_wp2_with (first | (refine wpList_put rfl 28 (.tmp 3) (.tmp 4) rfl rfl rfl rfl HH.out.2.2 rfl info28 (by simp [Value.oneCell']) ?_; rw [hw2]) | fail)
    refine ki.mono ?_
    rintro q w3 ⟨rfl, hb3⟩
    have s3 := hb3.size
    have rx3 := (hb3.block _ (by omega)).trans rx2
    have rz3 := (hb3.block _ (by omega)).trans rz2
    have ks := psign_any ((HH.out.1.later HH.out.2.1).later hb3) hz ⟨#[93]⟩
    rw [HM.out] at ks
    have HB3 : Hid (Below w2.heap.size w2 w3) := hb3
    clear ki hb3 rx2 rz2 hw2
    go_wp2_with fail
    refine ks.mono ?_
    rintro q w4 ⟨rfl, hP4, hO4⟩
    have s4 := hO4.size
    have rx4 := (hO4.block _ (by omega) (by omega)).trans rx3
    have rz4 := (hO4.block _ (by omega) (by omega)).trans rz3
    have kw := whole_any hP4 (show (takeP s).ex ≤ 1000000 from Nat.le_trans hex (by omega)) (nodeE 7 ⟨#[]⟩ 0) none 0 none 0
    have kw' : Calls Tryz.prog 182 #[.pointer (some ⟨b, 0, none⟩), .agg #[.int .i64 7, .string ⟨#[]⟩, .int .i64 0, .bool false, .int .i64 0, .string ⟨#[]⟩, .slice none 0 0, .slice none 0 0, .slice none 0 0, .slice none 0 0]] w4 fun r w' => r = .returned (.agg #[.int .i64 7, .string ⟨#[]⟩, .int .i64 0, .bool false, .int .i64 0, .string ⟨#[]⟩, .slice none 0 0, .slice none 0 0, .slice none 0 0, .slice none 0 0]) ∧ Ps w' b p c ws (wholeP ws (takeP s)) ∧ Onl b w4 w' := kw
    have H4 : Hid (Onl b w3 w4 ∧ w4.heap[w.heap.size + 1]? = some (.cells #[.int .i64 7, .string ⟨#[]⟩, .int .i64 0, .bool false, .int .i64 0, .string ⟨#[]⟩, .slice none 0 0, .slice none 0 0, .slice none 0 0, .slice none 0 0] 28 (0, 0))) := ⟨hO4, rx4⟩
    clear ks kw hP4 hO4 rx3 rz3 rx4
    go_wp2_with (first | (refine wpList_get rfl 28 (.tmp 3) rfl rfl H4.out.2 Tryz.underlying28 rfl info28 ?_; simp only [Act.put, List.setIfInBounds_toArray, List.set_cons_zero, List.set_cons_succ]) | fail)
    refine kw'.mono ?_
    rintro q w5 ⟨rfl, hP5, hO5⟩
    have s5 := hO5.size
    have rz5 := (hO5.block _ (by omega) (by omega)).trans rz4
    have H5 : Hid (Ps w5 b p c ws (wholeP ws (takeP s)) ∧ Onl b w4 w5 ∧ w5.heap[w.heap.size]? = some (.cells zero10 28 (0, 0))) := ⟨hP5, hO5, rz5⟩
    clear kw' hP5 hO5 rz4 rz5
    go_wp2_with (first | (refine wpList_put rfl 28 (.tmp 2) (.tmp 17) rfl rfl rfl rfl H5.out.2.2 rfl info28 (by simp [Value.oneCell']) ?_) | fail)
    obtain ⟨hP5, hO5, rz5⟩ := H5.out
    refine bodyPost_ret (results_cell_row Tryz.results183 _ _ w.heap.size 28 _ (0, 0) _ rfl (put_row _ rz5 rfl) Tryz.underlying28 rfl info28) rfl ⟨1, _, rfl, ?_, hP5.put lb hold _, ?_⟩
    · exact LiesE.leaf _ _ (nodeE 7 ⟨#[]⟩ 0) rfl rfl _
    · exact (((((Onl.of HH.out.2.1).trans (Onl.of HB3.out)).trans H4.out.1)).trans hO5).put _ (Nat.le_refl _) _
  · rw [if_neg hy]
    have hf : isP (wAt ws s.at') 6 [93] = false := by simpa using hy
    rw [hf] at ki
    have hpc := Pk.commas hz hF 33 [] s (Pk.refl H.lt)
    have hxb := hpc.exb few
    have kc := fun W (hP : Ps W b p c ws s) => commasE_any hP hz F hF (fun W u hP hk => (kb W u hP hk).mono (fun r w' hg => by
      obtain ⟨d, v, h1, h2, h3, h4⟩ := hg
      obtain ⟨V, hV, -, -⟩ := h2.agg
      subst hV
      exact ⟨_, V.toList, h1, rfl, ⟨d, h2⟩, h3, h4⟩))
    obtain ⟨X, hX⟩ : ∃ X, comF ws F 33 [] s = X := ⟨_, rfl⟩
    rw [hX] at kc hpc hxb ⊢
    have HM : Hid (mustP ws X.2 6 ⟨#[93]⟩ = mustQ ws X.2 6 [93]) := mustP_mustQ _ _ _ _
    have hme : (mustQ ws X.2 6 [93]).ex ≤ 1000000 := by
      have := (hpc.must hz (k := 6) (by decide) [93]).exb few
      omega
    have hmf : ∀ (fn : Fn) (first cap : Array Value) (w : World), (Instr.makeFunc fn first cap).run Tryz.prog w = .ok (.func fn first cap) w := fun _ _ _ _ => rfl
    clear H hy hf kb hF hX hpc hxb
    go_enter Tryz.func183, Tryz.ntmps183
    go_wp2_with (first | (refine wpList_put rfl 28 (.tmp 3) (.tmp 4) rfl rfl rfl rfl HH.out.2.2 rfl info28 (by simp [Value.oneCell']) ?_; rw [hw2]) | fail)
    refine ki.mono ?_
    rintro q w3 ⟨rfl, hb3⟩
    have s3 := hb3.size
    have rx3 := (hb3.block _ (by omega)).trans rx2
    have rz3 := (hb3.block _ (by omega)).trans rz2
    have k4 := kc w3 ((HH.out.1.later HH.out.2.1).later hb3)
    have HB3 : Hid (Below w2.heap.size w2 w3) := hb3
    clear ki hb3 rx2 rz2 hw2 kc
    go_wp2_with fail
    refine k4.mono ?_
    rintro q w4 ⟨v4, rfl, G4⟩
    have s4 := G4.onl.size
    have rx4 := (G4.onl.block _ (by omega) (by omega)).trans rx3
    have rz4 := (G4.onl.block _ (by omega) (by omega)).trans rz3
    obtain ⟨L, hown, hels⟩ := G4.own
    obtain ⟨kp, kc, rfl, hK, d, hd⟩ := kds_own hown hels (fun k hk => hk.1)
    have x8 := cell_of_row w4 _ 8 _ _ _ rx4
    have f8 := frozen_of_row w4 _ 8 _ _ rx4
    obtain ⟨w5, hw5⟩ : ∃ w5, w4.setCell ⟨w.heap.size + 1, 8, none⟩ (.slice kp X.1.length kc) = w5 := ⟨_, rfl⟩
    have rx5 : w5.heap[w.heap.size + 1]? = some (.cells #[.int .i64 7, .string ⟨#[]⟩, .int .i64 0, .bool false, .int .i64 0, .string ⟨#[]⟩, .slice none 0 0, .slice none 0 0, .slice kp X.1.length kc, .slice none 0 0] 28 (0, 0)) := by rw [← hw5]; exact heap_setCell_same _ _ 8 _ _ _ rx4
    have oth5 : ∀ j, j ≠ w.heap.size + 1 → w5.heap[j]? = w4.heap[j]? := fun j hj => by rw [← hw5]; exact Below.heap_setCell _ _ _ j hj
    have s5 : w5.heap.size = w4.heap.size := by rw [← hw5]; simp [World.setCell]
    have rz5 := (oth5 w.heap.size (by omega)).trans rz4
    have hP5 : Ps w5 b p c ws X.2 := G4.ps.kept (z := w.heap.size + 1) (by omega) (fun g hg => by have := hold g hg; omega) oth5 (by omega)
    have hO5 : Onl b w w5 := by
      have h0 := (((Onl.of HH.out.2.1).trans (Onl.of HB3.out)).trans G4.onl)
      have hb0 : Below 0 w4 w5 := by rw [← hw5]; exact (Below.refl 0 w4).setCell (p := ⟨w.heap.size + 1, 8, none⟩) (Nat.zero_le _) _
      exact ⟨hb0.os.trans h0.os, hb0.tape.trans h0.tape, hb0.output.trans h0.output, by have := h0.size; omega, fun k hk hb => (oth5 k (by omega)).trans (h0.block k hk hb)⟩
    have hS5 : Since (fun k => w3.heap.size ≤ k) w4 w5 := ⟨by omega, fun k hk _ => oth5 k (by omega)⟩
    have ks := psign_any hP5 hz ⟨#[93]⟩
    rw [HM.out] at ks
    have H5 : Hid (Onl b w w5 ∧ Kds w5 (fun k => w3.heap.size ≤ k) kp X.1.length kc (fun i j => L.getD (i * 10 + j) undef) ∧ (∀ i, i < X.1.length → LiesE w5 (fun k => w3.heap.size ≤ k) d (X.1.getD i zeroT) (row10 fun j => L.getD (i * 10 + j) undef))) := ⟨hO5, hK.since hS5, fun i hi => (hd i hi).since hS5⟩
    clear k4 G4 rx3 rz3 rx4 rz4 hown hels hK hd oth5 hP5 hO5 hS5
    go_wp2_with fail
    refine ks.mono ?_
    rintro q w6 ⟨rfl, hP6, hO6⟩
    have s6 := hO6.size
    have rx6 := (hO6.block _ (by omega) (by omega)).trans rx5
    have rz6 := (hO6.block _ (by omega) (by omega)).trans rz5
    have kw := whole_any hP6 hme (nodeE 7 ⟨#[]⟩ X.1.length) kp kc none 0
    have kw' : Calls Tryz.prog 182 #[.pointer (some ⟨b, 0, none⟩), .agg #[.int .i64 7, .string ⟨#[]⟩, .int .i64 0, .bool false, .int .i64 0, .string ⟨#[]⟩, .slice none 0 0, .slice none 0 0, .slice kp X.1.length kc, .slice none 0 0]] w6 fun r w' => r = .returned (.agg #[.int .i64 7, .string ⟨#[]⟩, .int .i64 0, .bool false, .int .i64 0, .string ⟨#[]⟩, .slice none 0 0, .slice none 0 0, .slice kp X.1.length kc, .slice none 0 0]) ∧ Ps w' b p c ws (wholeP ws (mustQ ws X.2 6 [93])) ∧ Onl b w6 w' := kw
    have H6 : Hid (Onl b w5 w6 ∧ w6.heap[w.heap.size + 1]? = some (.cells #[.int .i64 7, .string ⟨#[]⟩, .int .i64 0, .bool false, .int .i64 0, .string ⟨#[]⟩, .slice none 0 0, .slice none 0 0, .slice kp X.1.length kc, .slice none 0 0] 28 (0, 0))) := ⟨hO6, rx6⟩
    clear ks kw hP6 hO6 rx5 rz5 rx6 hw5 x8 f8
    go_wp2_with (first | (refine wpList_get rfl 28 (.tmp 3) rfl rfl H6.out.2 Tryz.underlying28 rfl info28 ?_; simp only [Act.put, List.setIfInBounds_toArray, List.set_cons_zero, List.set_cons_succ]) | fail)
    refine kw'.mono ?_
    rintro q w7 ⟨rfl, hP7, hO7⟩
    have s7 := hO7.size
    have rz7 := (hO7.block _ (by omega) (by omega)).trans rz6
    have H7 : Hid (Ps w7 b p c ws (wholeP ws (mustQ ws X.2 6 [93])) ∧ Onl b w6 w7 ∧ w7.heap[w.heap.size]? = some (.cells zero10 28 (0, 0))) := ⟨hP7, hO7, rz7⟩
    clear kw' hP7 hO7 rz6 rz7
    go_wp2_with (first | (refine wpList_put rfl 28 (.tmp 2) (.tmp 17) rfl rfl rfl rfl H7.out.2.2 rfl info28 (by simp [Value.oneCell']) ?_) | fail)
    obtain ⟨hP7, hO7, rz7⟩ := H7.out
    obtain ⟨hO5, hK, hd⟩ := H5.out
    refine bodyPost_ret (results_cell_row Tryz.results183 _ _ w.heap.size 28 _ (0, 0) _ rfl (put_row _ rz7 rfl) Tryz.underlying28 rfl info28) rfl ⟨d + 1, _, rfl, ?_, hP7.put lb hold _, ?_⟩
    · have hS : Since (fun k => w3.heap.size ≤ k) w5 (put w7 w.heap.size #[.int .i64 7, .string ⟨#[]⟩, .int .i64 0, .bool false, .int .i64 0, .string ⟨#[]⟩, .slice none 0 0, .slice none 0 0, .slice kp X.1.length kc, .slice none 0 0]) := ((Since.onl H6.out.1 (by omega)).trans (Since.onl hO7 (by omega))).trans (Since.put (by omega) _ _)
      exact ⟨kp, kc, none, 0, _, rfl, Nms.none _ _ _, (hK.since hS).imp fun k hk _ => by omega, fun i hi => ((hd i hi).since hS).imp fun k hk _ => by omega⟩
    · exact ((hO5.trans H6.out.1).trans hO7).put _ (Nat.le_refl _) _
end Go.Proofs.YtfemippjaokcmaaGreatDoor
namespace Go.Proofs.YtfemippjaokcmaaGreatDoor
open Go.RowKit Go.Shelf
attribute [local go_sem] Oper.semAt_some fw0 fw1 fw2
theorem own_mono {w : World} {base b2 T z : Nat} {v : Value} {n : Nat} {L : List Value} (h : w.ownsRow base T z v n L) (hb : b2 ≤ base) : w.ownsRow b2 T z v n L := by
  refine ⟨h.1, ?_⟩
  rcases h.2 with hn | ⟨g, cap, cur, hv, hg, rest⟩
  · exact .inl hn
  · exact .inr ⟨g, cap, cur, hv, Nat.le_trans hb hg, rest⟩
theorem comF_len {α : Type} (ws : List Wd) (one : PS → α × PS) : ∀ (n : Nat) (l : List α) (s : PS), (comF ws one n l s).1.length ≤ l.length + n
  | 0, l, s => Nat.le_refl _
  | n + 1, l, s => by
    unfold comF
    split
    · simp
    · split
      · have := comF_len ws one n (l ++ [(one s).1]) (takeP (one s).2)
        simp only [List.length_append, List.length_cons, List.length_nil] at this
        omega
      · simp
set_option maxRecDepth 100000 in
set_option maxHeartbeats 8000000 in
theorem structure_any {w : World} {b : Nat} {p : Option Addr} {c : Nat} {ws : List Wd} {s : PS} (H : Ps w b p c ws s) (hz : Wz ws) (hex : s.ex ≤ 700000) (F : PS → Et × PS) (hF : ∀ u, u.at' < ws.length → Pk 0 0 ws u (F u).2)
    (kb : ∀ W u, Ps W b p c ws u → Pk 0 0 ws s u → Calls Tryz.prog 120 #[.pointer (some ⟨b, 0, none⟩)] W (Gives ws (fun k => W.heap.size ≤ k) W b p c (F u))) :
    Calls Tryz.prog 184 #[.pointer (some ⟨b, 0, none⟩)] w (Gives ws (fun k => w.heap.size ≤ k) w b p c (structF ws F s)) := by
  have hold := H.old
  have lb := lt_of_row H.row
  have few := H.few
  obtain ⟨w2, hw2⟩ : ∃ w2, put ((w.alloc (.cells #[.int .i64 0, .string ⟨#[]⟩, .int .i64 0, .bool false, .int .i64 0, .string ⟨#[]⟩, .slice none 0 0, .slice none 0 0, .slice none 0 0, .slice none 0 0] 28)).alloc (.cells #[.int .i64 0, .string ⟨#[]⟩, .int .i64 0, .bool false, .int .i64 0, .string ⟨#[]⟩, .slice none 0 0, .slice none 0 0, .slice none 0 0, .slice none 0 0] 28)) (w.heap.size + 1) #[.int .i64 8, .string ⟨#[]⟩, .int .i64 0, .bool false, .int .i64 0, .string ⟨#[]⟩, .slice none 0 0, .slice none 0 0, .slice none 0 0, .slice none 0 0] = w2 := ⟨_, rfl⟩
  have ra : ((w.alloc (.cells #[.int .i64 0, .string ⟨#[]⟩, .int .i64 0, .bool false, .int .i64 0, .string ⟨#[]⟩, .slice none 0 0, .slice none 0 0, .slice none 0 0, .slice none 0 0] 28)).alloc (.cells #[.int .i64 0, .string ⟨#[]⟩, .int .i64 0, .bool false, .int .i64 0, .string ⟨#[]⟩, .slice none 0 0, .slice none 0 0, .slice none 0 0, .slice none 0 0] 28)).heap[w.heap.size + 1]? = some (.cells zero10 28 (0, 0)) := two_new _ _ _
  have hb2 : Below w.heap.size w w2 := by rw [← hw2]; exact put_below (((Below.refl _ w).alloc (Nat.le_refl _) _).alloc (by simp) _) _ (Nat.le_succ _) _
  have hs2 : w2.heap.size = w.heap.size + 1 + 1 := by rw [← hw2, put_size]; simp
  have rx2 : w2.heap[w.heap.size + 1]? = some (.cells #[.int .i64 8, .string ⟨#[]⟩, .int .i64 0, .bool false, .int .i64 0, .string ⟨#[]⟩, .slice none 0 0, .slice none 0 0, .slice none 0 0, .slice none 0 0] 28 (0, 0)) := by rw [← hw2]; exact put_row _ ra rfl
  have rz2 : w2.heap[w.heap.size]? = some (.cells zero10 28 (0, 0)) := by rw [← hw2, put_other (by omega), Below.heap_alloc _ _ _ (by simp)]; exact heap_alloc_new _ _
  have ki := is_any (H.later hb2) 6 ⟨#[125]⟩
  have hI : isW (wAt ws s.at') 6 ⟨#[125]⟩ = isP (wAt ws s.at') 6 [125] := isW_isP _ _ _
  rw [hI] at ki
  unfold structF
  have HH : Hid (Ps w b p c ws s ∧ Below w.heap.size w w2 ∧ ((w.alloc (.cells #[.int .i64 0, .string ⟨#[]⟩, .int .i64 0, .bool false, .int .i64 0, .string ⟨#[]⟩, .slice none 0 0, .slice none 0 0, .slice none 0 0, .slice none 0 0] 28)).alloc (.cells #[.int .i64 0, .string ⟨#[]⟩, .int .i64 0, .bool false, .int .i64 0, .string ⟨#[]⟩, .slice none 0 0, .slice none 0 0, .slice none 0 0, .slice none 0 0] 28)).heap[w.heap.size + 1]? = some (.cells zero10 28 (0, 0))) := ⟨H, hb2, ra⟩
  clear hI ra hb2
  by_cases hy : isP (wAt ws s.at') 6 [125] = true
  · rw [if_pos hy]
    rw [hy] at ki
    have HM : Hid (mustP ws s 6 ⟨#[125]⟩ = takeP s) := by
      have h1 := mustP_mustQ ws s 6 [125]
      unfold mustQ at h1
      rw [if_pos hy] at h1
      exact h1
    clear H hy kb hF
    go_enter Tryz.func184, Tryz.ntmps184
    go_wp2_with (first | (refine wpList_put rfl 28 (.tmp 3) (.tmp 4) rfl rfl rfl rfl HH.out.2.2 rfl info28 (by simp [Value.oneCell']) ?_; rw [hw2]) | fail)
    refine ki.mono ?_
    rintro q w3 ⟨rfl, hb3⟩
    have s3 := hb3.size
    have rx3 := (hb3.block _ (by omega)).trans rx2
    have rz3 := (hb3.block _ (by omega)).trans rz2
    have ks := psign_any ((HH.out.1.later HH.out.2.1).later hb3) hz ⟨#[125]⟩
    rw [HM.out] at ks
    have HB3 : Hid (Below w2.heap.size w2 w3) := hb3
    clear ki hb3 rx2 rz2 hw2
    go_wp2_with fail
    refine ks.mono ?_
    rintro q w4 ⟨rfl, hP4, hO4⟩
    have s4 := hO4.size
    have rx4 := (hO4.block _ (by omega) (by omega)).trans rx3
    have rz4 := (hO4.block _ (by omega) (by omega)).trans rz3
    have kw := whole_any hP4 (show (takeP s).ex ≤ 1000000 from Nat.le_trans hex (by omega)) (nodeE 8 ⟨#[]⟩ 0) none 0 none 0
    have kw' : Calls Tryz.prog 182 #[.pointer (some ⟨b, 0, none⟩), .agg #[.int .i64 8, .string ⟨#[]⟩, .int .i64 0, .bool false, .int .i64 0, .string ⟨#[]⟩, .slice none 0 0, .slice none 0 0, .slice none 0 0, .slice none 0 0]] w4 fun r w' => r = .returned (.agg #[.int .i64 8, .string ⟨#[]⟩, .int .i64 0, .bool false, .int .i64 0, .string ⟨#[]⟩, .slice none 0 0, .slice none 0 0, .slice none 0 0, .slice none 0 0]) ∧ Ps w' b p c ws (wholeP ws (takeP s)) ∧ Onl b w4 w' := kw
    have H4 : Hid (Onl b w3 w4 ∧ w4.heap[w.heap.size + 1]? = some (.cells #[.int .i64 8, .string ⟨#[]⟩, .int .i64 0, .bool false, .int .i64 0, .string ⟨#[]⟩, .slice none 0 0, .slice none 0 0, .slice none 0 0, .slice none 0 0] 28 (0, 0))) := ⟨hO4, rx4⟩
    clear ks kw hP4 hO4 rx3 rz3 rx4
    go_wp2_with (first | (refine wpList_get rfl 28 (.tmp 3) rfl rfl H4.out.2 Tryz.underlying28 rfl info28 ?_; simp only [Act.put, List.setIfInBounds_toArray, List.set_cons_zero, List.set_cons_succ]) | fail)
    refine kw'.mono ?_
    rintro q w5 ⟨rfl, hP5, hO5⟩
    have s5 := hO5.size
    have rz5 := (hO5.block _ (by omega) (by omega)).trans rz4
    have H5 : Hid (Ps w5 b p c ws (wholeP ws (takeP s)) ∧ Onl b w4 w5 ∧ w5.heap[w.heap.size]? = some (.cells zero10 28 (0, 0))) := ⟨hP5, hO5, rz5⟩
    clear kw' hP5 hO5 rz4 rz5
    go_wp2_with (first | (refine wpList_put rfl 28 (.tmp 2) (.tmp 22) rfl rfl rfl rfl H5.out.2.2 rfl info28 (by simp [Value.oneCell']) ?_) | fail)
    obtain ⟨hP5, hO5, rz5⟩ := H5.out
    refine bodyPost_ret (results_cell_row Tryz.results184 _ _ w.heap.size 28 _ (0, 0) _ rfl (put_row _ rz5 rfl) Tryz.underlying28 rfl info28) rfl ⟨1, _, rfl, ?_, hP5.put lb hold _, ?_⟩
    · exact LiesE.leaf _ _ (⟨8, ⟨#[]⟩, 0, false, 0, ⟨#[]⟩, 0, 0, fun i => (([] : List (ByteArray × Et)).getD i (⟨#[]⟩, zeroT)).1⟩ : En) rfl rfl _
    · exact (((((Onl.of HH.out.2.1).trans (Onl.of HB3.out)).trans H4.out.1)).trans hO5).put _ (Nat.le_refl _) _
  · rw [if_neg hy]
    have hf : isP (wAt ws s.at') 6 [125] = false := by simpa using hy
    rw [hf] at ki
    have hFn : ∀ u, u.at' < ws.length → Pk 0 0 ws u (namedF ws F [58] u).2 := fun u hu => Pk.named hz hF [58] (Pk.refl hu)
    have hpc := Pk.commas hz hFn 33 [] s (Pk.refl H.lt)
    have hlen := comF_len ws (namedF ws F [58]) 33 [] s
    have hxb := hpc.exb few
    have kc := fun W (hP : Ps W b p c ws s) => commasP_any hP hz (namedF ws F [58]) hFn (fun W u hP hk => part_any hP _ (fun W2 hP2 => named_any hP2 hz [58] F (fun W3 hP3 => kb W3 _ hP3 ((hk.name hz).must hz (by decide) [58]))))
    obtain ⟨X, hX⟩ : ∃ X, comF ws (namedF ws F [58]) 33 [] s = X := ⟨_, rfl⟩
    rw [hX] at kc hpc hxb hlen ⊢
    have HM : Hid (mustP ws X.2 6 ⟨#[125]⟩ = mustQ ws X.2 6 [125]) := mustP_mustQ _ _ _ _
    have hme : (mustQ ws X.2 6 [125]).ex ≤ 1000000 := by
      have := (hpc.must hz (k := 6) (by decide) [125]).exb few
      omega
    have hmf : ∀ (fn : Fn) (first cap : Array Value) (w : World), (Instr.makeFunc fn first cap).run Tryz.prog w = .ok (.func fn first cap) w := fun _ _ _ _ => rfl
    clear H hy hf kb hF hX hpc hxb hFn
    go_enter Tryz.func184, Tryz.ntmps184
    go_wp2_with (first | (refine wpList_put rfl 28 (.tmp 3) (.tmp 4) rfl rfl rfl rfl HH.out.2.2 rfl info28 (by simp [Value.oneCell']) ?_; rw [hw2]) | fail)
    refine ki.mono ?_
    rintro q w3 ⟨rfl, hb3⟩
    have s3 := hb3.size
    have rx3 := (hb3.block _ (by omega)).trans rx2
    have rz3 := (hb3.block _ (by omega)).trans rz2
    have k4 := kc w3 ((HH.out.1.later HH.out.2.1).later hb3)
    have HB3 : Hid (Below w2.heap.size w2 w3) := hb3
    clear ki hb3 rx2 rz2 hw2 kc
    go_wp2_with fail
    refine k4.mono ?_
    rintro q w4 ⟨v4, rfl, G4⟩
    have s4 := G4.onl.size
    have rx4 := (G4.onl.block _ (by omega) (by omega)).trans rx3
    have rz4 := (G4.onl.block _ (by omega) (by omega)).trans rz3
    obtain ⟨L, hown, hels⟩ := G4.own
    have ka := apart_any hown (Els.imp eFld (R := fun k => (w3.heap.size ≤ k ∧ v4.ownBlock ≠ some k) ∧ k < w4.heap.size) (fun k hk hl => ⟨hk, hl⟩) hels) (fun k hk => hk.2) (by omega)
    have HG4 : Hid (Ps w4 b p c ws X.2 ∧ Onl b w3 w4) := ⟨G4.ps, G4.onl⟩
    clear k4 G4 rx3 rz3 hown hels
    go_wp2_with fail
    refine ka.mono ?_
    rintro q w5 ⟨v1, v2, L1, L2, rfl, o1, e1, o2, e2, hb5⟩
    have s5 := hb5.size
    have lm1 : (X.1.map (·.1)).length = X.1.length := by simp
    have lm2 : (X.1.map (·.2)).length = X.1.length := by simp
    rw [← lm1] at o1
    rw [← lm2] at o2
    obtain ⟨np, nc, rfl, hN⟩ := nms_own o1 e1
    have o2' : w5.ownsRow w3.heap.size 28 10 v2 (X.1.map (·.2)).length L2 := own_mono o2 (by omega)
    obtain ⟨kp, kc, rfl, hK, d, hd⟩ := kds_own o2' e2 (fun k hk => hk.1.1)
    rw [lm1] at hN
    rw [lm2] at hK hd
    simp only [lm1, lm2]
    have rx5 := (hb5.block _ (by omega)).trans rx4
    have rz5 := (hb5.block _ (by omega)).trans rz4
    have x8 := cell_of_row w5 _ 8 _ _ _ rx5
    have f8 := frozen_of_row w5 _ 8 _ _ rx5
    have x9 := cell_of_row w5 _ 9 _ _ _ rx5
    have f9 := frozen_of_row w5 _ 9 _ _ rx5
    obtain ⟨w6, hw6⟩ : ∃ w6, (w5.setCell ⟨w.heap.size + 1, 9, none⟩ (.slice np X.1.length nc)).setCell ⟨w.heap.size + 1, 8, none⟩ (.slice kp X.1.length kc) = w6 := ⟨_, rfl⟩
    have rx6 : w6.heap[w.heap.size + 1]? = some (.cells #[.int .i64 8, .string ⟨#[]⟩, .int .i64 0, .bool false, .int .i64 0, .string ⟨#[]⟩, .slice none 0 0, .slice none 0 0, .slice kp X.1.length kc, .slice np X.1.length nc] 28 (0, 0)) := by
      rw [← hw6]
      have h9 := heap_setCell_same w5 _ 9 _ _ (.slice np X.1.length nc) rx5
      exact heap_setCell_same _ _ 8 _ _ _ h9
    have oth6 : ∀ j, j ≠ w.heap.size + 1 → w6.heap[j]? = w5.heap[j]? := fun j hj => by rw [← hw6, Below.heap_setCell _ _ _ j hj, Below.heap_setCell _ _ _ j hj]
    have s6 : w6.heap.size = w5.heap.size := by rw [← hw6]; simp [World.setCell]
    have rz6 := (oth6 w.heap.size (by omega)).trans rz5
    have hP6 : Ps w6 b p c ws X.2 := (HG4.out.1.later hb5).kept (z := w.heap.size + 1) (by omega) (fun g hg => by have := hold g hg; omega) oth6 (by omega)
    have hO6 : Onl b w w6 := by
      have h0 := ((((Onl.of HH.out.2.1).trans (Onl.of HB3.out)).trans HG4.out.2).trans (Onl.of hb5))
      have hb0 : Below 0 w5 w6 := by rw [← hw6]; exact ((Below.refl 0 w5).setCell (p := ⟨w.heap.size + 1, 9, none⟩) (Nat.zero_le _) _).setCell (p := ⟨w.heap.size + 1, 8, none⟩) (Nat.zero_le _) _
      exact ⟨hb0.os.trans h0.os, hb0.tape.trans h0.tape, hb0.output.trans h0.output, by have := h0.size; omega, fun k hk hb => (oth6 k (by omega)).trans (h0.block k hk hb)⟩
    have hS6 : Since (fun k => w3.heap.size ≤ k) w5 w6 := ⟨by omega, fun k hk _ => oth6 k (by omega)⟩
    have ks := psign_any hP6 hz ⟨#[125]⟩
    rw [HM.out] at ks
    have H6 : Hid (Onl b w w6 ∧ Nms w6 (fun k => w3.heap.size ≤ k) np X.1.length nc (fun i => (X.1.map (·.1)).getD i ⟨#[]⟩) ∧ Kds w6 (fun k => w3.heap.size ≤ k) kp X.1.length kc (fun i j => L2.getD (i * 10 + j) undef) ∧ (∀ i, i < X.1.length → LiesE w6 (fun k => w3.heap.size ≤ k) d ((X.1.map (·.2)).getD i zeroT) (row10 fun j => L2.getD (i * 10 + j) undef))) := ⟨hO6, (hN.imp fun k hk _ => by omega).since hS6, hK.since hS6, fun i hi => (hd i hi).since hS6⟩
    clear ka rx4 rz4 rx5 rz5 o1 e1 o2 o2' e2 hb5 hN hK hd oth6 hP6 hO6 hS6 lm1 lm2 hlen
    go_wp2_with fail
    refine ks.mono ?_
    rintro q w7 ⟨rfl, hP7, hO7⟩
    have s7 := hO7.size
    have rx7 := (hO7.block _ (by omega) (by omega)).trans rx6
    have rz7 := (hO7.block _ (by omega) (by omega)).trans rz6
    have kw := whole_any hP7 hme (⟨8, ⟨#[]⟩, 0, false, 0, ⟨#[]⟩, X.1.length, X.1.length, fun _ => ⟨#[]⟩⟩ : En) kp kc np nc
    have kw' : Calls Tryz.prog 182 #[.pointer (some ⟨b, 0, none⟩), .agg #[.int .i64 8, .string ⟨#[]⟩, .int .i64 0, .bool false, .int .i64 0, .string ⟨#[]⟩, .slice none 0 0, .slice none 0 0, .slice kp X.1.length kc, .slice np X.1.length nc]] w7 fun r w' => r = .returned (.agg #[.int .i64 8, .string ⟨#[]⟩, .int .i64 0, .bool false, .int .i64 0, .string ⟨#[]⟩, .slice none 0 0, .slice none 0 0, .slice kp X.1.length kc, .slice np X.1.length nc]) ∧ Ps w' b p c ws (wholeP ws (mustQ ws X.2 6 [125])) ∧ Onl b w7 w' := kw
    have H7 : Hid (Onl b w6 w7 ∧ w7.heap[w.heap.size + 1]? = some (.cells #[.int .i64 8, .string ⟨#[]⟩, .int .i64 0, .bool false, .int .i64 0, .string ⟨#[]⟩, .slice none 0 0, .slice none 0 0, .slice kp X.1.length kc, .slice np X.1.length nc] 28 (0, 0))) := ⟨hO7, rx7⟩
    clear ks kw hP7 hO7 rx6 rz6 rx7 hw6 x8 f8 x9 f9
    go_wp2_with (first | (refine wpList_get rfl 28 (.tmp 3) rfl rfl H7.out.2 Tryz.underlying28 rfl info28 ?_; simp only [Act.put, List.setIfInBounds_toArray, List.set_cons_zero, List.set_cons_succ]) | fail)
    refine kw'.mono ?_
    rintro q w8 ⟨rfl, hP8, hO8⟩
    have s8 := hO8.size
    have rz8 := (hO8.block _ (by omega) (by omega)).trans rz7
    have H8 : Hid (Ps w8 b p c ws (wholeP ws (mustQ ws X.2 6 [125])) ∧ Onl b w7 w8 ∧ w8.heap[w.heap.size]? = some (.cells zero10 28 (0, 0))) := ⟨hP8, hO8, rz8⟩
    clear kw' hP8 hO8 rz7 rz8
    go_wp2_with (first | (refine wpList_put rfl 28 (.tmp 2) (.tmp 22) rfl rfl rfl rfl H8.out.2.2 rfl info28 (by simp [Value.oneCell']) ?_) | fail)
    obtain ⟨hP8, hO8, rz8⟩ := H8.out
    obtain ⟨hO6, hN, hK, hd⟩ := H6.out
    refine bodyPost_ret (results_cell_row Tryz.results184 _ _ w.heap.size 28 _ (0, 0) _ rfl (put_row _ rz8 rfl) Tryz.underlying28 rfl info28) rfl ⟨d + 1, _, rfl, ?_, hP8.put lb hold _, ?_⟩
    · have hS : Since (fun k => w3.heap.size ≤ k) w6 (put w8 w.heap.size #[.int .i64 8, .string ⟨#[]⟩, .int .i64 0, .bool false, .int .i64 0, .string ⟨#[]⟩, .slice none 0 0, .slice none 0 0, .slice kp X.1.length kc, .slice np X.1.length nc]) := ((Since.onl H7.out.1 (by omega)).trans (Since.onl hO8 (by omega))).trans (Since.put (by omega) _ _)
      have en : (fun i => (X.1.map (·.1)).getD i ⟨#[]⟩) = fun i => (X.1.getD i (⟨#[]⟩, zeroT)).1 := by
        funext i
        rw [List.getD_eq_getElem?_getD, List.getD_eq_getElem?_getD, List.getElem?_map]
        cases X.1[i]? <;> rfl
      have ek : ∀ i, (X.1.map (·.2)).getD i zeroT = (X.1.getD i (⟨#[]⟩, zeroT)).2 := by
        intro i
        rw [List.getD_eq_getElem?_getD, List.getD_eq_getElem?_getD, List.getElem?_map]
        cases X.1[i]? <;> rfl
      rw [en] at hN
      refine ⟨kp, kc, np, nc, _, rfl, (hN.since hS).imp fun k hk _ => by omega, (hK.since hS).imp fun k hk _ => by omega, fun i hi => ?_⟩
      have h := ((hd i hi).since hS).imp (R := fun k => w.heap.size ≤ k) fun k hk _ => by omega
      rw [ek i] at h
      exact h
    · exact ((hO6.trans H7.out.1).trans hO8).put _ (Nat.le_refl _) _
end Go.Proofs.YtfemippjaokcmaaGreatDoor
