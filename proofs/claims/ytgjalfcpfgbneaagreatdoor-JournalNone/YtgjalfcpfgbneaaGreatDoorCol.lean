/- What a walk over a function with one number, or none, collects; sorted. -/
import Derived.Test.YtgjalfcpfgbneaaGreatDoorKey
import Derived.OwnWalk
import Derived.Shelf.Abstract
import Derived.Laws.IdiomRangeMap
namespace Go.Proofs.YtgjalfcpfgbneaaGreatDoor
open Go.RowKit Go.Shelf
attribute [local go_sem] Oper.semAt_some
theorem cell_of_row' {W : World} {g k : Nat} {cs : Array Value} {t : TypeId} (h : W.heap[g]? = some (.cells cs t (0, 0))) : W.cell? ⟨g, k, none⟩ = cs[k]? := cell_of_row W g k cs t _ h
theorem info3 : (Tryz.prog.info? 3).map (fun i => (i.zero, i.size, i.bytes)) = some (some (.int .i64 0), 1, 8) := by kernel_rfl
theorem pfx_one {d x : Int} {pre : List Int} (h : pre ++ [x] <+: [d]) : pre = [] ∧ x = d := by
  obtain ⟨r, hr⟩ := h
  cases pre with
  | nil => simp at hr; exact ⟨rfl, hr.1⟩
  | cons y ys => simp at hr
/- A list with these numbers in a box. -/
def Bx (n0 b : Nat) (pre : List Int) (W : World) : Prop := ∃ v, Boxed W b 32 v ∧ W.ownsRow n0 3 1 v pre.length (pre.map (Value.int .i64)) ∧ (pre = [] → v = .slice none 0 0)
theorem Bx.st {n0 b m : Nat} {pre : List Int} {U V : World} (h : Bx n0 b pre U) (hs : StW m U V) : Bx n0 b pre V := by
  obtain ⟨v, h1, h2, h3⟩ := h
  refine ⟨v, hs.row h1, ⟨h2.1, ?_⟩, h3⟩
  rcases h2.2 with h | ⟨g, cap, cur, e, hb, hg, r⟩
  · exact Or.inl h
  · exact Or.inr ⟨g, cap, cur, e, hb, hs.row hg, r⟩
set_option maxRecDepth 100000 in
set_option maxHeartbeats 4000000 in
theorem aseq_one {w : World} (g gf : Nat) (d : Int) (A : Nat → Prop) (eg : ∀ args W, (callFunc gf args).run Tryz.prog W = .ok (.enter gf args) W) (hA : ∀ k, A k → k < w.heap.size) (hseq : ∀ W, Below w.heap.size w W → SeqW Tryz.prog gf #[.pointer (some ⟨g, 0, none⟩)] (fun _ (x : Int) ar _ => ar = #[.int .i64 x]) [d] A W) :
    Calls Tryz.prog 98 #[.slice none 0 0, .func (.func gf) #[] #[.pointer (some ⟨g, 0, none⟩)]] w fun e w' => ∃ q c, e = .returned (.slice (some ⟨q, 0, none⟩) 1 c) ∧ w.heap.size ≤ q ∧ w'.cell? ⟨q, 0, none⟩ = some (.int .i64 d) ∧ 1 ≤ c ∧ c ≤ maxLen ∧ Below w.heap.size w w' := by
  obtain ⟨w1, hw1⟩ : ∃ w1, w.alloc (.cells #[.slice none 0 0] 32) = w1 := ⟨_, rfl⟩
  have hb1 : Below w.heap.size w w1 := by rw [← hw1]; exact (Below.refl _ w).alloc (Nat.le_refl _) _
  have s1 : w1.heap.size = w.heap.size + 1 := by rw [← hw1]; simp
  have bx : Boxed w1 w.heap.size 32 (.slice none 0 0) := by rw [← hw1]; exact Boxed.new w 32 _
  have hsq := hseq w1 hb1
  have HW : Hid (w.alloc (.cells #[.slice none 0 0] 32) = w1) := hw1
  clear hw1 hseq
  refine (callsIn_wide (n := 0)).1 ?_
  refine callsIn_of_wp_marks Tryz.func98 rfl trivial ?_ rfl
  simp only [Tryz.ntmps98, List.size_toArray, List.length_cons, List.length_nil, Nat.reduceAdd, Nat.reduceSub, Array.replicate_succ, Array.replicate_zero, List.push_toArray, List.append_toArray, List.nil_append, List.cons_append]
  gi_wp2
  rw [HW.out]
  obtain ⟨i0, hi, hz0, hz1, hz2⟩ := info_parts info3
  refine range_w (gf := gf) (lb := #[.pointer (some ⟨g, 0, none⟩)]) rfl eg hsq (fun _ _ _ _ h => by rw [h]; rfl) (fun _ _ _ _ _ h _ => h) (fun k => k = w.heap.size)
    (fun k hk => ⟨by have := hA k hk; omega, by have := hA k hk; omega⟩) (fun k hk => by omega)
    (fun pre W => Bx w.heap.size w.heap.size pre W ∧ Below w.heap.size w W)
    (fun _ _ _ => False)
    (fun s U V ⟨h0, h3⟩ hb => ⟨h0.st hb, h3.trans ⟨hb.os, hb.tape, hb.output, hb.size, fun k hk => hb.block k (Nat.lt_of_lt_of_le hk h3.size) (Or.inl (by omega))⟩⟩)
    (fun _ _ _ _ h _ => h) ⟨⟨_, bx, ⟨rfl, Or.inl ⟨rfl, rfl⟩⟩, fun _ => rfl⟩, hb1⟩
    (fun ar => { tmps := #[.slice none 0 0, .func (.func gf) #[] #[.pointer (some ⟨g, 0, none⟩)], .pointer (some ⟨w.heap.size, 0, none⟩), undef, .slice none 0 0, ar.getD 0 undef, .func (.func gf) #[] #[.pointer (some ⟨g, 0, none⟩)], ar.getD 0 undef, undef, undef, undef, undef, undef], defers := [] }) ?assign ?body ?done ?stop
  case assign =>
    intro l D x ar W K he hK
    subst he
    have e : (#[Value.int .i64 x] : Array Value).getD 0 undef = .int .i64 x := rfl
    simp only [e] at hK
    gi_wp2
    exact hK
  case body =>
    rintro l D pre x ar W hCD he ⟨⟨v, h1, h2, h3⟩, h4⟩ hp hsz
    obtain ⟨rfl, rfl⟩ := pfx_one hp
    obtain rfl := h3 rfl
    subst he
    have e : (#[Value.int .i64 x] : Array Value).getD 0 undef = .int .i64 x := rfl
    simp only [e]
    have c0 := h1.cell
    gi_wp2_with (first
      | (gi_at_builtin; refine wpListIn_append_own _ rfl _ _ 32 rfl w.heap.size 3 i0 (.int .i64 0) 1 8 Tryz.underlying32 hi hz0 hz1 hz2 rfl (by decide) _ _ _ rfl (h2.alloc _) ⟨W.heap.size, 0, none⟩ 1 1 [.int .i64 x] rfl rfl (cell_one_new _ _ _) (by simp [Value.oneCell']) (by decide) (by decide) (by have := h4.size; simp; omega) ?_; intro v' w3 hown' hg3 hnil3; obtain ⟨q, c, rfl⟩ := ownsRow_succ hown'; obtain ⟨k1, k2, k3, k4, k5⟩ := Boxed.appended h1 (by decide) h2 h4.size (Nat.le_refl _) hown' hg3; have c3 := k1.cell; have f3 := k1.frozen)
      | gi_in)
    have hkc : KC (fun k => k = w.heap.size) W (w3.setCell ⟨w.heap.size, 0, none⟩ (.slice (some ⟨q, 0, none⟩) (([] : List Int).length + 1) c)) := by
      refine KC.setCell (C := fun k => k = w.heap.size) ?_ (b := w.heap.size) (o := 0) rfl _
      have a1 := World.grownBy_alloc W (.cells #[.int .i64 x] 3) none
      have hg4 : (W.alloc (.cells #[.int .i64 x] 3)).grownBy w3 none := hg3
      exact ⟨hg4.os.trans a1.os, hg4.tape.trans a1.tape, hg4.output.trans a1.output, Nat.le_trans a1.size hg4.size, fun k hk hc => (hg4.block k (by simp; omega) (by simp)).trans (a1.block k hk (by simp))⟩
    exact ⟨hkc, ⟨_, k2, k3, fun h => by cases h⟩, h4.trans k5⟩
  case done =>
    rintro W ⟨⟨v, h1, h2, h3⟩, h4⟩ hkc hD
    obtain ⟨q, c, rfl⟩ := ownsRow_succ h2
    have c0 := h1.cell
    have HD : Hid (W.heap[w1.heap.size]? = some (.deferred (some []))) := hD
    clear hD
    gi_wp2
    refine ⟨by simp, .inl ⟨_, _, rfl, run_takeDeferred HD.out, ?_⟩⟩
    refine ⟨.slice (some ⟨q, 0, none⟩) 1 c, by simp [results, Tryz.results98, go_sem], ?_⟩
    have hbp : Below w.heap.size w (W.putObj w1.heap.size (.deferred none)) := h4.trans (putObj_below _ _ (by omega))
    rcases h2.2 with ⟨h, _⟩ | ⟨g', cap, cur, e, hq, hg, r1, r2, r3, r4⟩
    · cases h
    · injection e with e1 _ e3
      injection e1 with e1
      injection e1 with e1
      subst e1 e3
      refine ⟨q, c, rfl, hq, ?_, r1, r2, hbp⟩
      have hne : q ≠ w1.heap.size := fun e => by
        rw [e, HD.out] at hg
        cases hg
      have hg2 := (World.putObj_heap_other (o := .deferred none) hne).trans hg
      rw [cell_of_row _ q 0 _ _ _ hg2, ← Array.getElem?_toList]
      have r5 : cur.toList.take 1 = [.int .i64 d] := r4
      cases hcl : cur.toList with
      | nil => rw [hcl] at r5; cases r5
      | cons a l =>
        rw [hcl] at r5
        simp at r5
        rw [r5]; rfl
  case stop => exact fun _ _ _ _ h => h.elim

def One (n0 : Nat) (d : Int) (e : Ending) (w' : World) : Prop := ∃ q c, e = .returned (.slice (some ⟨q, 0, none⟩) 1 c) ∧ n0 ≤ q ∧ w'.cell? ⟨q, 0, none⟩ = some (.int .i64 d) ∧ 1 ≤ c ∧ c ≤ maxLen
set_option maxRecDepth 100000 in
theorem collect_one {w : World} (g : Nat) (d : Int) (k : Calls Tryz.prog 98 #[.slice none 0 0, .func (.func 90) #[] #[.pointer (some ⟨g, 0, none⟩)]] w fun e w' => ∃ q c, e = .returned (.slice (some ⟨q, 0, none⟩) 1 c) ∧ w.heap.size ≤ q ∧ w'.cell? ⟨q, 0, none⟩ = some (.int .i64 d) ∧ 1 ≤ c ∧ c ≤ maxLen ∧ Below w.heap.size w w') :
    Calls Tryz.prog 88 #[.func (.func 90) #[] #[.pointer (some ⟨g, 0, none⟩)]] w fun e w' => One w.heap.size d e w' ∧ Below w.heap.size w w' := by
  go_enter Tryz.func88, Tryz.ntmps88
  go_wp2_with fail
  refine k.mono ?_
  rintro e w1 ⟨q, c, rfl, h1, h2, h3, h4, hb⟩
  go_wp2
  go_ret
  exact ⟨⟨q, c, rfl, h1, h2, h3, h4⟩, hb⟩
set_option maxRecDepth 100000 in
theorem sorted_one {w : World} (g m : Nat) (d : Int) (v : DataW Unit) (hg : w.heap[g]? = some (.cells #[.map (some m)] 67 (0, 0))) (hm : Mp w m 1 (D1 d v)) :
    Calls Tryz.prog 65 #[.func (.func 90) #[] #[.pointer (some ⟨g, 0, none⟩)]] w fun e w' => One w.heap.size d e w' ∧ Below w.heap.size w w' := by
  have k := collect_one g d (aseq_one g 90 d (fun k => k = g ∨ k = m) (enters_of Tryz.func90 (by kernel_rfl) rfl) (fun k hk => by
    rcases hk with rfl | rfl
    · exact lt_of_row hg
    · exact hm.lt) (fun W hb => keys_seq g m d v ((hb.block _ (lt_of_row hg)).trans hg) (mp_kept hm (hb.block _ hm.lt))))
  clear hm hg
  go_enter Tryz.func65, Tryz.ntmps65
  go_wp2_with fail
  refine k.mono ?_
  rintro e w1 ⟨⟨q, c, rfl, h1, h2, h3, h4⟩, hb⟩
  go_wp2_with fail
  refine (sort1 _ c w1).mono ?_
  rintro e w2 ⟨rfl, rfl⟩
  go_wp2
  go_ret
  exact ⟨⟨q, c, rfl, h1, h2, h3, h4⟩, hb⟩
/- Files of a disk with one. -/
set_option maxRecDepth 100000 in
theorem files_one {w : World} {d m : Nat} {sec used ch : Int} {pl : Value} {dead : Bool} (n : Int) (v : DataW Unit) (h : Dk w d (.map (some m)) sec used ch pl dead) (hm : Mp w m 1 (D1 n v)) :
    Calls Tryz.prog 36 #[.pointer (some ⟨d, 0, none⟩)] w fun e w' => One w.heap.size n e w' ∧ Below w.heap.size w w' := by
  obtain ⟨c0, c1, c2, c3, c4, c5⟩ := h.cells
  obtain ⟨w1, hw1⟩ : ∃ w1, w.alloc (.cells #[.map (some m)] 67) = w1 := ⟨_, rfl⟩
  have hb1 : Below w.heap.size w w1 := by rw [← hw1]; exact (Below.refl _ w).alloc (Nat.le_refl _) _
  have r1 : w1.heap[w.heap.size]? = some (.cells #[.map (some m)] 67 (0, 0)) := by rw [← hw1]; exact heap_alloc_new _ _
  have kk := keys_box m w
  rw [hw1] at kk
  have ks := sorted_one w.heap.size m n v r1 (mp_kept hm (hb1.block _ hm.lt))
  clear hw1
  go_enter Tryz.func36, Tryz.ntmps36
  go_wp2_with fail
  refine kk.mono ?_
  rintro e w1b ⟨rfl, rfl⟩
  go_wp2_with fail
  refine ks.mono ?_
  rintro e w2 ⟨⟨q, c, rfl, h1, h2, h3, h4⟩, hb2⟩
  have := hb1.size
  go_wp2
  go_ret
  exact ⟨⟨q, c, rfl, by omega, h2, h3, h4⟩, hb1.trans (hb2.mono hb1.size)⟩
/- The keys of a nil map of sectors, sorted: none. -/
set_option maxRecDepth 100000 in
theorem sort0 (w : World) : Calls Tryz.prog 89 #[.slice none 0 0] w fun e w' => e = .returned (.tuple #[]) ∧ w' = w := by
  have k : ∀ w, Calls Tryz.prog 115 #[.int .u64 0] w fun e w' => (∃ n : Int, e = .returned (.int .i64 n)) ∧ w' = w := fun w => by
    go_enter Tryz.func115, Tryz.ntmps115
    go_wp2
    go_ret
    exact ⟨⟨_, rfl⟩, rfl⟩
  have k2 : ∀ w, Calls Tryz.prog 100 #[.int .u64 0] w fun e w' => (∃ n : Int, e = .returned (.int .i64 n)) ∧ w' = w := fun w => by
    have kw := k w
    go_enter Tryz.func100, Tryz.ntmps100
    go_wp2_with fail
    refine kw.mono ?_
    rintro e w1 ⟨⟨n, rfl⟩, rfl⟩
    go_wp2
    go_ret
    exact ⟨⟨_, rfl⟩, rfl⟩
  have k3 : ∀ w, Calls Tryz.prog 105 #[.slice none 0 0, .int .i64 0, .int .i64 0] w fun e w' => e = .returned (.tuple #[]) ∧ w' = w := fun w => by
    go_enter Tryz.func105, Tryz.ntmps105
    go_wp2
    go_loopw [6] (fun v wr => v = .int .i64 1 ∧ wr = w) (fun _ _ => 0)
    case atStart => exact ⟨rfl, rfl⟩
    case round =>
      obtain ⟨rfl, rfl⟩ := hrel
      go_wp2
      exact bodyPost_end (results_none Tryz.results105 _ _ _) rfl ⟨rfl, rfl⟩
  have k4 : ∀ n w, Calls Tryz.prog 99 #[.slice none 0 0, .int .i64 0, .int .i64 0, .int .i64 n] w fun e w' => e = .returned (.tuple #[]) ∧ w' = w := fun n w => by
    have ki := k3 w
    go_enter Tryz.func99, Tryz.ntmps99
    go_wp2
    go_loopw [1, 2] (fun v1 v2 wr => v1 = .int .i64 0 ∧ v2 = .int .i64 0 ∧ wr = w) (fun _ _ _ => 0)
    case atStart => exact ⟨rfl, rfl, rfl⟩
    case round =>
      obtain ⟨rfl, rfl, rfl⟩ := hrel
      go_wp2_with fail
      refine ki.mono ?_
      rintro e w1 ⟨rfl, rfl⟩
      go_wp2
      exact bodyPost_ret (results_none Tryz.results99 _ _ _) rfl ⟨rfl, rfl⟩
  have kw := k2 w
  go_enter Tryz.func89, Tryz.ntmps89
  go_wp2_with fail
  refine kw.mono ?_
  rintro e w1 ⟨⟨n, rfl⟩, rfl⟩
  go_wp2_with fail
  refine (k4 n w1).mono ?_
  rintro e w2 ⟨rfl, rfl⟩
  go_wp2
  exact bodyPost_end (results_none Tryz.results89 _ _ _) rfl ⟨rfl, rfl⟩
set_option maxRecDepth 100000 in
theorem skeys_box (w : World) : Calls Tryz.prog 91 #[.map none] w fun e w' => e = .returned (.func (.func 101) #[] #[.pointer (some ⟨w.heap.size, 0, none⟩)]) ∧ w' = w.alloc (.cells #[.map none] 95) := by
  go_enter Tryz.func91, Tryz.ntmps91
  go_wp2
  go_ret
  exact ⟨rfl, rfl⟩
set_option maxRecDepth 100000 in
theorem skeys_none {w : World} (g : Nat) (hg : w.heap[g]? = some (.cells #[.map none] 95 (0, 0))) : SeqW Tryz.prog 101 #[.pointer (some ⟨g, 0, none⟩)] (fun _ (_ : Unit) _ _ => False) [] (fun k => k = g) w := by
  intro C yl J Jx W hbW hA hCW hJ hJx hY h0
  have hc := cell_of_row W g 0 _ _ _ ((hbW.block _ (lt_of_row hg)).trans hg)
  have hrn := run_range_nilMap (P := Tryz.prog) W 95 3 135 Tryz.underlying95
  have hnx := fun ty => run_next_nilMap (P := Tryz.prog) W ty 0 0 #[]
  obtain ⟨w6, hw6⟩ : ∃ w6, W.alloc (.mapIter none 0 #[] 0) = w6 := ⟨_, rfl⟩
  rw [hw6] at hrn
  simp only [hw6] at hnx
  have hb6 : Below W.heap.size W w6 := by rw [← hw6]; exact (Below.refl _ W).alloc (Nat.le_refl _) _
  have hJ6 := hJ _ _ _ h0 (StW.of hb6)
  have k : Calls Tryz.prog 101 (#[.func (.yield yl) #[] #[]] ++ #[.pointer (some ⟨g, 0, none⟩)]) W fun e w' => e = .returned (.tuple #[]) ∧ w' = w6 := by
    show Calls Tryz.prog 101 #[.func (.yield yl) #[] #[], .pointer (some ⟨g, 0, none⟩)] W _
    clear hJ hJx hY hA hCW
    go_enter Tryz.func101, Tryz.ntmps101
    go_wp2
    go_loopw [6] (fun _ wr => wr = w6) (fun _ _ => 0)
    case atStart => rfl
    case round =>
      obtain rfl := hrel
      go_wp2
      exact bodyPost_end (results_none Tryz.results101 _ _ _) rfl ⟨rfl, rfl⟩
  refine (callsIn_wide.2 k).mono ?_
  rintro e w' ⟨rfl, rfl⟩
  exact ⟨⟨_, rfl⟩, Or.inl hJ6, KC.of hb6⟩
set_option maxRecDepth 100000 in
set_option maxHeartbeats 2000000 in
theorem aseq_none {w : World} (g : Nat) (hg : w.heap[g]? = some (.cells #[.map none] 95 (0, 0))) :
    Calls Tryz.prog 98 #[.slice none 0 0, .func (.func 101) #[] #[.pointer (some ⟨g, 0, none⟩)]] w fun e w' => e = .returned (.slice none 0 0) ∧ Below w.heap.size w w' := by
  obtain ⟨w1, hw1⟩ : ∃ w1, w.alloc (.cells #[.slice none 0 0] 32) = w1 := ⟨_, rfl⟩
  have hb1 : Below w.heap.size w w1 := by rw [← hw1]; exact (Below.refl _ w).alloc (Nat.le_refl _) _
  have s1 : w1.heap.size = w.heap.size + 1 := by rw [← hw1]; simp
  have bx : Boxed w1 w.heap.size 32 (.slice none 0 0) := by rw [← hw1]; exact Boxed.new w 32 _
  have hg1 := (hb1.block _ (lt_of_row hg)).trans hg
  have HW : Hid (w.alloc (.cells #[.slice none 0 0] 32) = w1) := hw1
  clear hw1
  refine (callsIn_wide (n := 0)).1 ?_
  refine callsIn_of_wp_marks Tryz.func98 rfl trivial ?_ rfl
  simp only [Tryz.ntmps98, List.size_toArray, List.length_cons, List.length_nil, Nat.reduceAdd, Nat.reduceSub, Array.replicate_succ, Array.replicate_zero, List.push_toArray, List.append_toArray, List.nil_append, List.cons_append]
  gi_wp2
  rw [HW.out]
  refine range_w (gf := 101) (lb := #[.pointer (some ⟨g, 0, none⟩)]) rfl (enters_of Tryz.func101 (by kernel_rfl) rfl) (skeys_none g hg1) (fun _ _ _ _ h => h.elim) (fun _ _ _ _ _ h _ => h.elim) (fun _ => False) (fun k hk => ⟨by subst hk; exact lt_of_row hg1, id⟩) (fun k hk => hk.elim)
    (fun _ U => Boxed U w.heap.size 32 (.slice none 0 0)) (fun _ _ _ => False) (fun s U V h hb => hb.row h) (fun _ _ _ _ h _ => h) bx (fun _ => ⟨#[], []⟩) (fun _ _ _ _ _ _ h => h.elim) (fun _ _ _ _ _ _ _ h => h.elim) ?done (fun _ _ _ _ h => h.elim)
  rintro U bU hkc hD
  have c0 := bU.cell
  have hBU : Below w.heap.size w U := ⟨hkc.os.trans hb1.os, hkc.tape.trans hb1.tape, hkc.output.trans hb1.output, Nat.le_trans hb1.size hkc.size, fun k hk => (hkc.block k (by omega) (by simp; omega)).trans (hb1.block k hk)⟩
  have HD : Hid (U.heap[w1.heap.size]? = some (.deferred (some []))) := hD
  clear hD
  gi_wp2
  refine ⟨by simp, .inl ⟨_, _, rfl, run_takeDeferred HD.out, ?_⟩⟩
  refine ⟨.slice none 0 0, by simp [results, Tryz.results98, go_sem], rfl, ?_⟩
  exact hBU.trans (putObj_below _ _ (by omega))
set_option maxRecDepth 100000 in
theorem sorted_none {w : World} (g : Nat) (hg : w.heap[g]? = some (.cells #[.map none] 95 (0, 0))) :
    Calls Tryz.prog 65 #[.func (.func 101) #[] #[.pointer (some ⟨g, 0, none⟩)]] w fun e w' => e = .returned (.slice none 0 0) ∧ Below w.heap.size w w' := by
  have k := aseq_none g hg
  have k2 : Calls Tryz.prog 88 #[.func (.func 101) #[] #[.pointer (some ⟨g, 0, none⟩)]] w fun e w' => e = .returned (.slice none 0 0) ∧ Below w.heap.size w w' := by
    go_enter Tryz.func88, Tryz.ntmps88
    go_wp2_with fail
    refine k.mono ?_
    rintro e w1 ⟨rfl, hb⟩
    go_wp2
    go_ret
    exact ⟨rfl, hb⟩
  clear k
  go_enter Tryz.func65, Tryz.ntmps65
  go_wp2_with fail
  refine k2.mono ?_
  rintro e w1 ⟨rfl, hb⟩
  go_wp2_with fail
  refine (sort0 w1).mono ?_
  rintro e w2 ⟨rfl, rfl⟩
  go_wp2
  go_ret
  exact ⟨rfl, hb⟩
end Go.Proofs.YtgjalfcpfgbneaaGreatDoor
