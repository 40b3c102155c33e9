/- A disk without files: Files, Crash. A file all of which is sure: loose, lose, Crash; Sync. Files that are not there. -/
import Derived.Test.YtgjalfcpfgbneaaGreatDoorCra
namespace Go.Proofs.YtgjalfcpfgbneaaGreatDoor
open Go.RowKit Go.Shelf
attribute [local go_sem] Oper.semAt_some
set_option maxRecDepth 100000 in
theorem fkeys_box (w : World) : Calls Tryz.prog 66 #[.map none] w fun e w' => e = .returned (.func (.func 90) #[] #[.pointer (some ⟨w.heap.size, 0, none⟩)]) ∧ w' = w.alloc (.cells #[.map none] 67) := by
  go_enter Tryz.func66, Tryz.ntmps66
  go_wp2
  go_ret
  exact ⟨rfl, rfl⟩
set_option maxRecDepth 100000 in
theorem fkeys_none {w : World} (g : Nat) (hg : w.heap[g]? = some (.cells #[.map none] 67 (0, 0))) : SeqW Tryz.prog 90 #[.pointer (some ⟨g, 0, none⟩)] (fun _ (_ : Unit) _ _ => False) [] (fun k => k = g) w := by
  intro C yl J Jx W hbW hA hCW hJ hJx hY h0
  have hc := cell_of_row W g 0 _ _ _ ((hbW.block _ (lt_of_row hg)).trans hg)
  have hrn := run_range_nilMap (P := Tryz.prog) W 67 3 92 Tryz.underlying67
  have hnx := fun ty => run_next_nilMap (P := Tryz.prog) W ty 0 0 #[]
  obtain ⟨w6, hw6⟩ : ∃ w6, W.alloc (.mapIter none 0 #[] 0) = w6 := ⟨_, rfl⟩
  rw [hw6] at hrn
  simp only [hw6] at hnx
  have hb6 : Below W.heap.size W w6 := by rw [← hw6]; exact (Below.refl _ W).alloc (Nat.le_refl _) _
  have hJ6 := hJ _ _ _ h0 (StW.of hb6)
  have k : Calls Tryz.prog 90 (#[.func (.yield yl) #[] #[]] ++ #[.pointer (some ⟨g, 0, none⟩)]) W fun e w' => e = .returned (.tuple #[]) ∧ w' = w6 := by
    show Calls Tryz.prog 90 #[.func (.yield yl) #[] #[], .pointer (some ⟨g, 0, none⟩)] W _
    clear hJ hJx hY hA hCW
    go_enter Tryz.func90, Tryz.ntmps90
    go_wp2
    go_loopw [6] (fun _ wr => wr = w6) (fun _ _ => 0)
    case atStart => rfl
    case round =>
      obtain rfl := hrel
      go_wp2
      exact bodyPost_end (results_none Tryz.results90 _ _ _) rfl ⟨rfl, rfl⟩
  refine (callsIn_wide.2 k).mono ?_
  rintro e w' ⟨rfl, rfl⟩
  exact ⟨⟨_, rfl⟩, Or.inl hJ6, KC.of hb6⟩
set_option maxRecDepth 100000 in
set_option maxHeartbeats 4000000 in
theorem faseq_none {w : World} (g : Nat) (hg : w.heap[g]? = some (.cells #[.map none] 67 (0, 0))) :
    Calls Tryz.prog 98 #[.slice none 0 0, .func (.func 90) #[] #[.pointer (some ⟨g, 0, none⟩)]] w fun e w' => e = .returned (.slice none 0 0) ∧ Below w.heap.size w w' := by
  obtain ⟨w1, hw1⟩ : ∃ w1, w.alloc (.cells #[.slice none 0 0] 32) = w1 := ⟨_, rfl⟩
  have hb1 : Below w.heap.size w w1 := by rw [← hw1]; exact (Below.refl _ w).alloc (Nat.le_refl _) _
  have s1 : w1.heap.size = w.heap.size + 1 := by rw [← hw1]; simp
  have bx : Boxed w1 w.heap.size 32 (.slice none 0 0) := by rw [← hw1]; exact Boxed.new w 32 _
  have hg1 := (hb1.block _ (lt_of_row hg)).trans hg
  have HW : Hid (w.alloc (.cells #[.slice none 0 0] 32) = w1) := hw1
  clear hw1
  refine (callsIn_wide (n := 0)).1 ?_
  refine callsIn_of_wp_marks Tryz.func98 rfl trivial ?_ rfl
  simp only [Tryz.ntmps98, List.size_toArray, List.length_cons, List.length_nil, Nat.reduceAdd, Nat.reduceSub, Array.replicate_succ, Array.replicate_zero, List.push_toArray, List.append_toArray, List.nil_append, List.cons_append]
  gi_wp2
  rw [HW.out]
  refine range_w (gf := 90) (lb := #[.pointer (some ⟨g, 0, none⟩)]) rfl (enters_of Tryz.func90 (by kernel_rfl) rfl) (fkeys_none g hg1) (fun _ _ _ _ h => h.elim) (fun _ _ _ _ _ h _ => h.elim) (fun _ => False) (fun k hk => ⟨by subst hk; exact lt_of_row hg1, id⟩) (fun k hk => hk.elim)
    (fun _ U => Boxed U w.heap.size 32 (.slice none 0 0)) (fun _ _ _ => False) (fun s U V h hb => hb.row h) (fun _ _ _ _ h _ => h) bx (fun _ => ⟨#[], []⟩) (fun _ _ _ _ _ _ h => h.elim) (fun _ _ _ _ _ _ _ h => h.elim) ?done (fun _ _ _ _ h => h.elim)
  rintro U bU hkc hD
  have c0 := bU.cell
  have hBU : Below w.heap.size w U := ⟨hkc.os.trans hb1.os, hkc.tape.trans hb1.tape, hkc.output.trans hb1.output, Nat.le_trans hb1.size hkc.size, fun k hk => (hkc.block k (by omega) (by simp; omega)).trans (hb1.block k hk)⟩
  have HD : Hid (U.heap[w1.heap.size]? = some (.deferred (some []))) := hD
  clear hD
  gi_wp2
  refine ⟨by simp, .inl ⟨_, _, rfl, run_takeDeferred HD.out, ?_⟩⟩
  refine ⟨.slice none 0 0, by simp [results, Tryz.results98, go_sem], rfl, ?_⟩
  exact hBU.trans (putObj_below _ _ (by omega))
set_option maxRecDepth 100000 in
theorem fsorted_none {w : World} (g : Nat) (hg : w.heap[g]? = some (.cells #[.map none] 67 (0, 0))) :
    Calls Tryz.prog 65 #[.func (.func 90) #[] #[.pointer (some ⟨g, 0, none⟩)]] w fun e w' => e = .returned (.slice none 0 0) ∧ Below w.heap.size w w' := by
  have k := faseq_none g hg
  have k2 : Calls Tryz.prog 88 #[.func (.func 90) #[] #[.pointer (some ⟨g, 0, none⟩)]] w fun e w' => e = .returned (.slice none 0 0) ∧ Below w.heap.size w w' := by
    go_enter Tryz.func88, Tryz.ntmps88
    go_wp2_with fail
    refine k.mono ?_
    rintro e w1 ⟨rfl, hb⟩
    go_wp2
    go_ret
    exact ⟨rfl, hb⟩
  clear k
  go_enter Tryz.func65, Tryz.ntmps65
  go_wp2_with fail
  refine k2.mono ?_
  rintro e w1 ⟨rfl, hb⟩
  go_wp2_with fail
  refine (sort0 w1).mono ?_
  rintro e w2 ⟨rfl, rfl⟩
  go_wp2
  go_ret
  exact ⟨rfl, hb⟩
set_option maxRecDepth 100000 in
theorem files_none {w : World} {d : Nat} {sec used ch : Int} {pl : Value} {dead : Bool} (h : Dk w d (.map none) sec used ch pl dead) :
    Calls Tryz.prog 36 #[.pointer (some ⟨d, 0, none⟩)] w fun e w' => e = .returned (.slice none 0 0) ∧ Below w.heap.size w w' := by
  obtain ⟨c0, c1, c2, c3, c4, c5⟩ := h.cells
  obtain ⟨w1, hw1⟩ : ∃ w1, w.alloc (.cells #[.map none] 67) = w1 := ⟨_, rfl⟩
  have hb1 : Below w.heap.size w w1 := by rw [← hw1]; exact (Below.refl _ w).alloc (Nat.le_refl _) _
  have r1 : w1.heap[w.heap.size]? = some (.cells #[.map none] 67 (0, 0)) := by rw [← hw1]; exact heap_alloc_new _ _
  have kk := fkeys_box w
  rw [hw1] at kk
  have ks := fsorted_none w.heap.size r1
  clear hw1
  go_enter Tryz.func36, Tryz.ntmps36
  go_wp2_with fail
  refine kk.mono ?_
  rintro e w1b ⟨rfl, rfl⟩
  go_wp2_with fail
  refine ks.mono ?_
  rintro e w2 ⟨rfl, hb2⟩
  go_wp2
  go_ret
  exact ⟨rfl, hb1.trans (hb2.mono hb1.size)⟩
set_option maxRecDepth 100000 in
set_option maxHeartbeats 4000000 in
theorem crash_new {w : World} {d : Nat} {sec used ch : Int} {pl : Value} (a b : Int) (h : Dk w d (.map none) sec used ch pl false) :
    Calls Tryz.prog 13 #[.pointer (some ⟨d, 0, none⟩), .int .u64 a, .int .i64 b] w fun e w' => e = .returned (.tuple #[]) ∧ Dk w' d (.map none) sec 0 ch pl true ∧ Chg (fun k => k = d) w w' := by
  have ltd := lt_of_row h
  obtain ⟨w1, hw1⟩ : ∃ w1, w.alloc (.cells #[.int .u64 a, .int .i64 b, .int .i64 0] 90) = w1 := ⟨_, rfl⟩
  have hb1 : Below w.heap.size w w1 := by rw [← hw1]; exact (Below.refl _ w).alloc (Nat.le_refl _) _
  have h1 : Dk w1 d (.map none) sec used ch pl false := (hb1.block _ ltd).trans h
  obtain ⟨w2, hw2⟩ : ∃ w2, w1.setCell ⟨d, 2, none⟩ (.int .i64 0) = w2 := ⟨_, rfl⟩
  have h2 : Dk w2 d (.map none) sec 0 ch pl false := by rw [← hw2]; exact row_setCell (k := 2) h1 _
  have n2 : ∀ k, k ≠ d → w2.heap[k]? = w1.heap[k]? := fun k hk => by rw [← hw2]; exact Below.heap_setCell _ _ _ _ (by show k ≠ d; exact hk)
  have kd := dead_any w h
  have kf := files_none h2
  obtain ⟨c0, c1, c2, c3, c4, c5⟩ := h1.cells
  have f2 := h1.fro 2
  have HX : Hid (w.alloc (.cells #[.int .u64 a, .int .i64 b, .int .i64 0] 90) = w1 ∧ w1.setCell ⟨d, 2, none⟩ (.int .i64 0) = w2) := ⟨hw1, hw2⟩
  have C2 : Chg (fun k => k = d) w w2 := by
    rw [← hw2]
    exact ⟨hb1.os, hb1.tape, hb1.output, by simp; exact hb1.size, fun k hk hn => by rw [hw2]; exact (n2 k hn).trans (hb1.block k hk)⟩
  clear hw1 hw2
  go_enter Tryz.func13, Tryz.ntmps13
  go_wp2_with fail
  refine kd.mono ?_
  rintro e wd ⟨rfl, hwd⟩
  rw [hwd]
  clear hwd
  go_wp2_with (first | rw [HX.out.1] | rw [HX.out.2] | fail)
  refine kf.mono ?_
  rintro e w3 ⟨rfl, hb3⟩
  have h3 : Dk w3 d (.map none) sec 0 ch pl false := (hb3.block _ (lt_of_row h2)).trans h2
  have C3 : Chg (fun k => k = d) w w3 := C2.trans (S' := fun _ => False) ⟨hb3.os, hb3.tape, hb3.output, hb3.size, fun k hk _ => hb3.block k hk⟩ (fun k hk => hk.elim)
  clear kd kf c0 c1 c2 c3 c4 c5 f2
  go_wp2
  go_loopw [22] (fun v22 wr => v22 = .int .i64 0 ∧ wr = w3) (fun _ _ => 0)
  case atStart => exact ⟨rfl, rfl⟩
  case round =>
    obtain ⟨rfl, rfl⟩ := hrel
    obtain ⟨c0, c1, c2, c3, c4, c5⟩ := h3.cells
    have f5 := h3.fro 5
    go_wp2
    refine bodyPost_end (results_none Tryz.results13 _ _ _) rfl ⟨rfl, row_setCell (k := 5) h3 _, ?_⟩
    exact C3.trans (S' := fun k => k = d) ⟨rfl, rfl, rfl, by simp, fun k hk hn => Below.heap_setCell _ _ _ _ (by show k ≠ d; exact hn)⟩ (fun k hk => Or.inl hk)
set_option maxRecDepth 100000 in
set_option maxHeartbeats 4000000 in
theorem loose_sure {w : World} {f L c : Nat} {p : Option Addr} (hL : L ≤ 1000000) (h : Fl w f (.slice p L c) (L : Int) (.map none)) :
    Calls Tryz.prog 67 #[.pointer (some ⟨f, 0, none⟩)] w fun e w' => e = .returned (.slice none 0 0) ∧ Below w.heap.size w w' := by
  obtain ⟨c0, c1, c2⟩ := h.cells
  have kk := skeys_box w
  obtain ⟨w1, hw1⟩ : ∃ w1, w.alloc (.cells #[.map none] 95) = w1 := ⟨_, rfl⟩
  rw [hw1] at kk
  have hb1 : Below w.heap.size w w1 := by rw [← hw1]; exact (Below.refl _ w).alloc (Nat.le_refl _) _
  have r1 : w1.heap[w.heap.size]? = some (.cells #[.map none] 95 (0, 0)) := by rw [← hw1]; exact heap_alloc_new _ _
  have ks := sorted_none w.heap.size r1
  have hsL := fun w => sectors_any (L : Int) (by omega) (by omega) w
  obtain ⟨K, hK⟩ : ∃ K, secN (L : Int) = K := ⟨_, rfl⟩
  rw [hK] at hsL
  clear hw1 hK
  go_enter Tryz.func67, Tryz.ntmps67
  go_wp2_with fail
  refine kk.mono ?_
  rintro e w1b ⟨rfl, rfl⟩
  go_wp2_with fail
  refine ks.mono ?_
  rintro e w2 ⟨rfl, hb2⟩
  have hB2 : Below w.heap.size w w2 := hb1.trans (hb2.mono hb1.size)
  have h2 : Fl w2 f (.slice p L c) (L : Int) (.map none) := (hB2.block _ (lt_of_row h)).trans h
  obtain ⟨d0, d1, d2⟩ := h2.cells
  clear kk ks c0 c1 c2
  go_wp2_with fail
  refine (hsL _).mono ?_
  rintro e w3 ⟨rfl, rfl⟩
  go_wp2
  go_loopw [3, 4] (fun v3 v4 wr => v3 = .slice none 0 0 ∧ v4 = .int .i64 K ∧ wr = w3) (fun _ _ _ => 0)
  case atStart => exact ⟨rfl, rfl, rfl⟩
  case round =>
    obtain ⟨rfl, rfl, rfl⟩ := hrel
    go_wp2_with fail
    refine (hsL _).mono ?_
    rintro e w4 ⟨rfl, rfl⟩
    go_wp2
    go_ret
    exact ⟨rfl, hB2⟩
set_option maxRecDepth 100000 in
set_option maxHeartbeats 4000000 in
theorem lose_sure {w : World} {f g l L cap : Nat} (hL : L ≤ 1000000) (hcap : L ≤ cap) (hF : Fl w f (.slice (some ⟨g, 0, none⟩) L cap) (L : Int) (.map none)) :
    Calls Tryz.prog 37 #[.pointer (some ⟨f, 0, none⟩), .pointer (some ⟨l, 0, none⟩)] w fun e w' => e = .returned (.tuple #[]) ∧ Fl w' f (.slice (some ⟨g, 0, none⟩) L cap) (L : Int) (.map none) ∧ Chg (fun k => k = f) w w' := by
  obtain ⟨c0, c1, c2⟩ := hF.cells
  have kl := loose_sure hL hF
  have ltf := lt_of_row hF
  go_enter Tryz.func37, Tryz.ntmps37
  go_wp2_with fail
  refine kl.mono ?_
  rintro e w1 ⟨rfl, hb1⟩
  have hF1 : Fl w1 f (.slice (some ⟨g, 0, none⟩) L cap) (L : Int) (.map none) := (hb1.block _ ltf).trans hF
  clear kl c0 c1 c2
  go_wp2
  go_loopw [4, 17] (fun v4 v17 wr => v4 = .int .i64 (L : Int) ∧ v17 = .int .i64 0 ∧ wr = w1) (fun _ _ _ => 0)
  case atStart => exact ⟨rfl, rfl, rfl⟩
  case round =>
    obtain ⟨rfl, rfl, hw⟩ := hrel
    rw [hw]
    clear hw
    obtain ⟨d0, d1, d2⟩ := hF1.cells
    have f0 := hF1.fro 0
    have hm9 : maxLen = 9223372036854775807 := rfl
    have F4 : Fl (w1.setCell ⟨f, 0, none⟩ (.slice (some ⟨g, 0, none⟩) L cap)) f (.slice (some ⟨g, 0, none⟩) L cap) (L : Int) (.map none) := row_setCell (k := 0) hF1 _
    go_wp2_with fail
    refine (settle_any _ F4).mono ?_
    rintro e w9 ⟨rfl, hF9, hC9⟩
    go_wp2
    refine bodyPost_end (results_none Tryz.results37 _ _ _) rfl ⟨rfl, hF9, ?_⟩
    have u1 : Chg (fun k => k = f) w w1 := ⟨hb1.os, hb1.tape, hb1.output, hb1.size, fun k hk _ => hb1.block k hk⟩
    have u3 : Chg (fun k => k = f) w (w1.setCell ⟨f, 0, none⟩ (.slice (some ⟨g, 0, none⟩) L cap)) := u1.trans (S' := fun k => k = f) ⟨rfl, rfl, rfl, by simp, fun k hk hn => Below.heap_setCell _ _ _ _ (by show k ≠ f; exact hn)⟩ (fun k hk => Or.inl hk)
    exact u3.trans hC9 (fun k hk => Or.inl hk)
set_option maxRecDepth 100000 in
set_option maxHeartbeats 4000000 in
theorem sync_one {d m k b l c pc : Nat} {p q : Option Addr} {sec used ch sure : Int} {ov : Value} {D : DataW Unit} (n : Int) (hI : I64 n) (hch : 0 ≤ ch ∧ ch < 1000000000) (hdb : d ≠ b) (w : World) (hk : Dk w d (.map (some m)) sec used ch (.slice p 0 pc) false) (hm : Mp w m k D) (hD : D.atKey (.int .i64 n) .nil = .lit (.int .u64 (b : Int))) (h : Fl w b (.slice q l c) sure ov) :
    Calls Tryz.prog 34 #[.pointer (some ⟨d, 0, none⟩), .int .i64 n] w fun e w' => e = .returned (.int .i64 0) ∧ Dk w' d (.map (some m)) sec used (ch + 1) (.slice p 0 pc) false ∧ Fl w' b (.slice q l c) (l : Int) (.map none) ∧ Chg (fun k => k = d ∨ k = b) w w' := by
  have hfi := find_one n hI w hk hm hD
  go_enter Tryz.func34, Tryz.ntmps34
  go_wp2_with fail
  refine hfi.mono ?_
  rintro e w1 ⟨rfl, rfl⟩
  go_wp2_with fail
  refine (struck_none hch _ hk).mono ?_
  rintro e w2 ⟨rfl, q2, hw2⟩
  have h2 : Dk w2 d (.map (some m)) sec used (ch + 1) (.slice p 0 pc) false := by rw [hw2]; exact row_setCell (k := 3) (hk.drewN q2) _
  have n2 : ∀ k, k ≠ d → w2.heap[k]? = w1.heap[k]? := fun k hk => by rw [hw2]; exact Below.heap_setCell _ _ _ _ (by show k ≠ d; exact hk)
  have C2 : Chg (fun k => k = d ∨ k = b) w1 w2 := by
    rw [hw2]
    exact ⟨rfl, rfl, rfl, by simp [World.drewN], fun k hk hn => by rw [← hw2]; exact n2 k (fun e => hn (Or.inl e))⟩
  have F2 := (n2 b (Ne.symm hdb)).trans h
  clear hw2 n2
  go_wp2_with fail
  refine (settle_any _ F2).mono ?_
  rintro e w3 ⟨rfl, F3, C3⟩
  go_wp2
  go_ret
  exact ⟨rfl, (C3.block _ (lt_of_row h2) hdb).trans h2, F3, C2.trans C3 (fun k hk => Or.inl (Or.inr hk))⟩
set_option maxRecDepth 100000 in
theorem find_none {d : Nat} {sec used ch : Int} {pl : Value} (n : Int) (hI : I64 n) (w : World) (h : Dk w d (.map none) sec used ch pl false) :
    Calls Tryz.prog 53 #[.pointer (some ⟨d, 0, none⟩), .int .i64 n] w fun e w' => e = .returned (.tuple #[.pointer none, .int .i64 2]) ∧ w' = w := by
  obtain ⟨c0, c1, c2, c3, c4, c5⟩ := h.cells
  have hl := look_none hI w
  go_enter Tryz.func53, Tryz.ntmps53
  go_wp2_with fail
  refine (dead_any _ h).mono ?_
  rintro e w1 ⟨rfl, rfl⟩
  go_wp2
  go_ret2
  exact ⟨rfl, rfl⟩
set_option maxRecDepth 100000 in
theorem read_none {d : Nat} {sec used ch : Int} {pl : Value} (n : Int) (hI : I64 n) (w : World) (h : Dk w d (.map none) sec used ch pl false) :
    Calls Tryz.prog 48 #[.pointer (some ⟨d, 0, none⟩), .int .i64 n] w fun e w' => e = .returned (.tuple #[.string ⟨#[]⟩, .int .i64 2]) ∧ w' = w := by
  have hfi := find_none n hI w h
  go_enter Tryz.func48, Tryz.ntmps48
  go_wp2_with fail
  refine hfi.mono ?_
  rintro e w1 ⟨rfl, rfl⟩
  go_wp2
  go_ret2
  exact ⟨rfl, rfl⟩
set_option maxRecDepth 100000 in
theorem find_no {d m k : Nat} {D : DataW Unit} {sec used ch : Int} {pl : Value} (n : Int) (hI : I64 n) (w : World) (h : Dk w d (.map (some m)) sec used ch pl false) (hm : Mp w m k D) (hD : D.atKey (.int .i64 n) .nil = .nil) :
    Calls Tryz.prog 53 #[.pointer (some ⟨d, 0, none⟩), .int .i64 n] w fun e w' => e = .returned (.tuple #[.pointer none, .int .i64 2]) ∧ w' = w := by
  obtain ⟨c0, c1, c2, c3, c4, c5⟩ := h.cells
  have hl := hm.look_nil hI hD
  go_enter Tryz.func53, Tryz.ntmps53
  go_wp2_with fail
  refine (dead_any _ h).mono ?_
  rintro e w1 ⟨rfl, rfl⟩
  go_wp2
  go_ret2
  exact ⟨rfl, rfl⟩
set_option maxRecDepth 100000 in
theorem read_no {d m k : Nat} {D : DataW Unit} {sec used ch : Int} {pl : Value} (n : Int) (hI : I64 n) (w : World) (h : Dk w d (.map (some m)) sec used ch pl false) (hm : Mp w m k D) (hD : D.atKey (.int .i64 n) .nil = .nil) :
    Calls Tryz.prog 48 #[.pointer (some ⟨d, 0, none⟩), .int .i64 n] w fun e w' => e = .returned (.tuple #[.string ⟨#[]⟩, .int .i64 2]) ∧ w' = w := by
  have hfi := find_no n hI w h hm hD
  go_enter Tryz.func48, Tryz.ntmps48
  go_wp2_with fail
  refine hfi.mono ?_
  rintro e w1 ⟨rfl, rfl⟩
  go_wp2
  go_ret2
  exact ⟨rfl, rfl⟩
theorem wrap_small {K : Int} (h0 : 0 ≤ K) (h1 : K ≤ 1000000) : IntKind.i64.wrap K = K := by
  rw [IntKind.wrap_i64]
  omega
set_option maxRecDepth 100000 in
set_option maxHeartbeats 4000000 in
theorem crash_sure {w : World} {d m f g L cap : Nat} (mask torn K : Int) (hL : L ≤ 1000000) (hK : secN (L : Int) = K) {sec used ch : Int} {p : Option Addr} {pc : Nat} (n : Int) (hI : I64 n) (h : Dk w d (.map (some m)) sec used ch (.slice p 0 pc) false) (hm : Mp w m 1 (D1 n (.lit (.int .u64 (f : Int))))) (hF : Fl w f (.slice (some ⟨g, 0, none⟩) L cap) (L : Int) (.map none)) (hcap : L ≤ cap)
    (hdf : d ≠ f) (hdm : d ≠ m) (hmf : m ≠ f) :
    Calls Tryz.prog 13 #[.pointer (some ⟨d, 0, none⟩), .int .u64 mask, .int .i64 torn] w fun e w' => e = .returned (.tuple #[]) ∧ Dk w' d (.map (some m)) sec K ch (.slice p 0 pc) true ∧ Fl w' f (.slice (some ⟨g, 0, none⟩) L cap) (L : Int) (.map none) ∧ Mp w' m 1 (D1 n (.lit (.int .u64 (f : Int)))) ∧ Chg (fun k => k = d ∨ k = f) w w' := by
  have ltd := lt_of_row h
  have ltf := lt_of_row hF
  have ltm := hm.lt
  obtain ⟨w1, hw1⟩ : ∃ w1, w.alloc (.cells #[.int .u64 mask, .int .i64 torn, .int .i64 0] 90) = w1 := ⟨_, rfl⟩
  have hb1 : Below w.heap.size w w1 := by rw [← hw1]; exact (Below.refl _ w).alloc (Nat.le_refl _) _
  have s1 : w1.heap.size = w.heap.size + 1 := by rw [← hw1]; simp
  have h1 : Dk w1 d (.map (some m)) sec used ch (.slice p 0 pc) false := (hb1.block _ ltd).trans h
  obtain ⟨w2, hw2⟩ : ∃ w2, w1.setCell ⟨d, 2, none⟩ (.int .i64 0) = w2 := ⟨_, rfl⟩
  have h2 : Dk w2 d (.map (some m)) sec 0 ch (.slice p 0 pc) false := by rw [← hw2]; exact row_setCell (k := 2) h1 _
  have n2 : ∀ k, k ≠ d → w2.heap[k]? = w1.heap[k]? := fun k hk => by rw [← hw2]; exact Below.heap_setCell _ _ _ _ (by show k ≠ d; exact hk)
  have s2 : w2.heap.size = w.heap.size + 1 := by rw [← hw2]; simp [s1]
  have k2 : ∀ k, k < w.heap.size → k ≠ d → w2.heap[k]? = w.heap[k]? := fun k hk hd => (n2 k hd).trans (hb1.block k hk)
  have m2 : Mp w2 m 1 (D1 n (.lit (.int .u64 (f : Int)))) := mp_kept hm (k2 _ ltm hdm.symm)
  have F2 : Fl w2 f (.slice (some ⟨g, 0, none⟩) L cap) (L : Int) (.map none) := (k2 _ ltf hdf.symm).trans hF
  have kd := dead_any w h
  have kf := files_one n _ h2 m2
  obtain ⟨c0, c1, c2, c3, c4, c5⟩ := h1.cells
  have f2 := h1.fro 2
  have HX : Hid (w.alloc (.cells #[.int .u64 mask, .int .i64 torn, .int .i64 0] 90) = w1 ∧ w1.setCell ⟨d, 2, none⟩ (.int .i64 0) = w2) := ⟨hw1, hw2⟩
  have C2 : Chg (fun k => k = d ∨ k = f) w w2 := by
    rw [← hw2]
    exact ⟨hb1.os, hb1.tape, hb1.output, by simp; exact hb1.size, fun k hk hn => by rw [hw2]; exact k2 k hk (fun e => hn (Or.inl e))⟩
  clear hw1 hw2
  go_enter Tryz.func13, Tryz.ntmps13
  go_wp2_with fail
  refine kd.mono ?_
  rintro e wd ⟨rfl, hwd⟩
  rw [hwd]
  clear hwd
  go_wp2_with (first | rw [HX.out.1] | rw [HX.out.2] | fail)
  refine kf.mono ?_
  rintro e w3 ⟨⟨q, c, rfl, hq0, hq, hc1, hc2⟩, hb3⟩
  have h3 : Dk w3 d (.map (some m)) sec 0 ch (.slice p 0 pc) false := (hb3.block _ (lt_of_row h2)).trans h2
  have m3 : Mp w3 m 1 (D1 n (.lit (.int .u64 (f : Int)))) := mp_kept m2 (hb3.block _ m2.lt)
  have F3 : Fl w3 f (.slice (some ⟨g, 0, none⟩) L cap) (L : Int) (.map none) := (hb3.block _ (lt_of_row F2)).trans F2
  have C3 : Chg (fun k => k = d ∨ k = f) w w3 := C2.trans (S' := fun _ => False) ⟨hb3.os, hb3.tape, hb3.output, hb3.size, fun k hk _ => hb3.block k hk⟩ (fun k hk => hk.elim)
  clear kd kf c0 c1 c2 c3 c4 c5 f2
  go_wp2
  go_loopw [22] (fun v22 wr => (v22 = .int .i64 0 ∧ wr = w3) ∨ (v22 = .int .i64 1 ∧ Dk wr d (.map (some m)) sec K ch (.slice p 0 pc) false ∧ Fl wr f (.slice (some ⟨g, 0, none⟩) L cap) (L : Int) (.map none) ∧ Mp wr m 1 (D1 n (.lit (.int .u64 (f : Int)))) ∧ Chg (fun k => k = d ∨ k = f) w wr)) (fun v22 _ => (1 - intOf v22).toNat)
  case atStart => exact Or.inl ⟨rfl, rfl⟩
  case round =>
    rcases hrel with ⟨rfl, hw⟩ | ⟨rfl, h5, F5, m5, C5⟩
    · rw [hw]
      clear hw
      have hlk := m3.look hI (at_one n _)
      obtain ⟨c0, c1, c2, c3, c4, c5⟩ := h3.cells
      have kl := lose_sure (l := w.heap.size) hL hcap F3
      go_wp2_with fail
      refine kl.mono ?_
      rintro e w4 ⟨rfl, F4, C4⟩
      have h4 : Dk w4 d (.map (some m)) sec 0 ch (.slice p 0 pc) false := (C4.block _ (lt_of_row h3) hdf).trans h3
      have m4 : Mp w4 m 1 (D1 n (.lit (.int .u64 (f : Int)))) := mp_kept m3 (C4.block _ m3.lt hmf)
      obtain ⟨d0, d1, d2, d3, d4, d5⟩ := h4.cells
      obtain ⟨e0, e1, e2⟩ := F4.cells
      have f2 := h4.fro 2
      have hsec := fun w => sectors_any (L : Int) (by omega) (by omega) w
      have hsb : 0 ≤ secN (L : Int) ∧ secN (L : Int) ≤ 1000000 := by unfold secN; omega
      rw [hK] at hsec hsb
      clear kl hlk c0 c1 c2 c3 c4 c5
      go_wp2_with fail
      go_region_law (go_simp; go_at_call 38; refine (hsec _).mono ?_; rintro e w5 ⟨rfl, rfl⟩; dsimp only)
      all_goals
        have hw3 : IntKind.i64.wrap K = K := wrap_small hsb.1 hsb.2
        rw [hw3]
        obtain ⟨w6, hw6⟩ : ∃ w6, (w4.setCell ⟨d, 2, none⟩ (.int .i64 K)).drew = w6 := ⟨_, rfl⟩
        rw [hw6]
        have h6 : Dk w6 d (.map (some m)) sec K ch (.slice p 0 pc) false := by rw [← hw6]; exact row_setCell (k := 2) h4 _
        have n6 : ∀ k, k ≠ d → w6.heap[k]? = w4.heap[k]? := fun k hk => by rw [← hw6]; exact Below.heap_setCell _ _ _ _ (by show k ≠ d; exact hk)
        have C6 : Chg (fun k => k = d ∨ k = f) w w6 := by
          have a1 : Chg (fun k => k = d ∨ k = f) w w4 := C3.trans C4 (fun k hk => by
            exact Or.inl (Or.inr hk))
          refine a1.trans (S' := fun k => k = d) ?_ (fun k hk => Or.inl (Or.inl hk))
          rw [← hw6]
          exact ⟨rfl, rfl, rfl, by simp [World.drew], fun k hk hn => (by rw [hw6]; exact n6 k hn)⟩
        clear hw6 d0 d1 d2 d3 d4 d5 e0 e1 e2 f2
        go_wp2
        go_roundw
        case rel => exact Or.inr ⟨by go_num, h6, (n6 f hdf.symm).trans F4, mp_kept m4 (n6 m hdm.symm), C6⟩
        case measure => simp [intOf]
    · obtain ⟨c0, c1, c2, c3, c4, c5⟩ := h5.cells
      have f5 := h5.fro 5
      go_wp2
      refine bodyPost_end (results_none Tryz.results13 _ _ _) rfl ⟨rfl, row_setCell (k := 5) h5 _, (Below.heap_setCell _ _ _ _ (by show f ≠ d; exact hdf.symm)).trans F5, mp_kept m5 (Below.heap_setCell _ _ _ _ (by show m ≠ d; exact hdm.symm)), ?_⟩
      exact C5.trans (S' := fun k => k = d) ⟨rfl, rfl, rfl, by simp, fun k hk hn => Below.heap_setCell _ _ _ _ (by show k ≠ d; exact hn)⟩ (fun k hk => Or.inl (Or.inl hk))
end Go.Proofs.YtgjalfcpfgbneaaGreatDoor
