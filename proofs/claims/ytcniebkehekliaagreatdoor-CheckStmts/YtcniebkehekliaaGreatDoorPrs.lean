/- The parser's block (Ps), and what each call on words does: word, fail, take, is, took, key, sign, end, name. -/
import Derived.Test.YtcniebkehekliaaGreatDoorWdx
import Derived.Test.YtcniebkehekliaaGreatDoorAny
namespace Go.Proofs.YtcniebkehekliaaGreatDoor
open Go.RowKit Go.Shelf
attribute [local go_sem] Oper.semAt_some
/- Where a parser stands: the next word, whole expressions, how deep, the first error and its place. -/
structure PS where
  at' : Nat
  ex : Nat
  ne : Nat
  er : Nat
  pl : Nat
def psRow (p : Option Addr) (n c : Nat) (s : PS) : Array Value := #[.slice p n c, .int .i64 (s.at' : Int), .int .i64 (s.ex : Int), .int .i64 (s.ne : Int), .int .i64 (s.er : Int), .int .i64 (s.pl : Int)]
structure Onl (b : Nat) (w w' : World) : Prop where
  os : w'.os = w.os
  tape : w'.tape = w.tape
  output : w'.output = w.output
  size : w.heap.size ≤ w'.heap.size
  block : ∀ k, k < w.heap.size → k ≠ b → w'.heap[k]? = w.heap[k]?
theorem Onl.of {b : Nat} {w w' : World} (h : Below w.heap.size w w') : Onl b w w' := ⟨h.os, h.tape, h.output, h.size, fun k hk _ => h.block k hk⟩
theorem Onl.trans {b : Nat} {a c d : World} (h : Onl b a c) (k : Onl b c d) : Onl b a d :=
  ⟨k.os.trans h.os, k.tape.trans h.tape, k.output.trans h.output, Nat.le_trans h.size k.size, fun j hj hb => (k.block j (Nat.lt_of_lt_of_le hj h.size) hb).trans (h.block j hj hb)⟩
theorem Onl.setCell {b : Nat} {a c : World} (h : Onl b a c) (o : Nat) (v : Value) : Onl b a (c.setCell ⟨b, o, none⟩ v) :=
  ⟨h.os, h.tape, h.output, by simpa [World.setCell] using h.size, fun k hk hb => (heap_setCell_other c ⟨b, o, none⟩ k v hb).trans (h.block k hk hb)⟩
structure Ps (w : World) (b : Nat) (p : Option Addr) (c : Nat) (ws : List Wd) (s : PS) : Prop where
  row : w.heap[b]? = some (.cells (psRow p ws.length c s) 87 (0, 0))
  sl : Sl w p ws.length c (wdC ws)
  lt : s.at' < ws.length
  few : ws.length ≤ 3000
theorem Ps.later {w w' : World} {b : Nat} {p : Option Addr} {c : Nat} {ws : List Wd} {s : PS} (H : Ps w b p c ws s) (hb : Below w.heap.size w w') : Ps w' b p c ws s :=
  ⟨(hb.block _ (lt_of_row H.row)).trans H.row, H.sl.later hb, H.lt, H.few⟩
def wdS (x : Wd) : ByteArray := ⟨x.s.toArray⟩
def wAt (ws : List Wd) (i : Nat) : Wd := ws.getD i ⟨0, [], 0⟩
theorem wdC_at : ∀ (ws : List Wd) (i : Nat), i < ws.length → (wdC ws)[i * 3]? = some (.int .i64 ((wAt ws i).k : Int)) ∧ (wdC ws)[i * 3 + 1]? = some (.string (wdS (wAt ws i))) ∧ (wdC ws)[i * 3 + 2]? = some (.int .i64 ((wAt ws i).a : Int))
  | [], i, h => by simp at h
  | x :: ws, 0, _ => ⟨rfl, rfl, rfl⟩
  | x :: ws, i + 1, h => by
    have h2 := wdC_at ws i (by simpa using h)
    have e : wdC (x :: ws) = wd1 x ++ wdC ws := rfl
    have e0 : (i + 1) * 3 = i * 3 + 1 + 1 + 1 := by omega
    rw [e, e0]
    refine ⟨?_, ?_, ?_⟩
    · exact h2.1
    · exact h2.2.1
    · exact h2.2.2
theorem Ps.word_at {w : World} {b : Nat} {p : Option Addr} {c : Nat} {ws : List Wd} {s : PS} (H : Ps w b p c ws s) : ∃ g, p = some ⟨g, 0, none⟩ ∧ g < w.heap.size ∧ g ≠ b ∧
    w.cell? ⟨g, s.at' * 3, none⟩ = some (.int .i64 ((wAt ws s.at').k : Int)) ∧ w.cell? ⟨g, s.at' * 3 + 1, none⟩ = some (.string (wdS (wAt ws s.at'))) ∧ w.cell? ⟨g, s.at' * 3 + 2, none⟩ = some (.int .i64 ((wAt ws s.at').a : Int)) := by
  have hl := H.lt
  obtain ⟨g, rfl, hg, hc⟩ := H.sl.lies (by omega)
  obtain ⟨h1, h2, h3⟩ := wdC_at ws s.at' H.lt
  refine ⟨g, rfl, hg, fun e => ?_, hc _ _ h1, hc _ _ h2, hc _ _ h3⟩
  subst e
  have h4 := hc _ _ h2
  rw [cell_of_row w g _ _ _ _ H.row] at h4
  have := Array.mem_of_getElem? h4
  simp [psRow] at this
theorem Ps.upd {w w' : World} {b : Nat} {p : Option Addr} {c : Nat} {ws : List Wd} {s t : PS} (H : Ps w b p c ws s) (ho : Onl b w w') (hr : w'.heap[b]? = some (.cells (psRow p ws.length c t) 87 (0, 0))) (hl : t.at' < ws.length) : Ps w' b p c ws t := by
  obtain ⟨g, rfl, hg, hne, -, -, -⟩ := H.word_at
  refine ⟨hr, ⟨H.sl.cap, H.sl.len, fun h0 => ?_⟩, hl, H.few⟩
  obtain ⟨g', e, h2, h3⟩ := H.sl.lies h0
  obtain rfl : g = g' := by injection e with e; injection e
  exact ⟨g, rfl, Nat.lt_of_lt_of_le h2 ho.size, fun j u hu => (World.cell?_of_block (a := ⟨g, j, none⟩) (ho.block g h2 hne)).trans (h3 j u hu)⟩
def wdV (x : Wd) : Value := .agg #[.int .i64 (x.k : Int), .string (wdS x), .int .i64 (x.a : Int)]
theorem fw0 (x y z : Value) (W : World) : (Instr.field 99 (.agg #[x, y, z]) 0).run Tryz.prog W = .ok x W := by kernel_rfl
theorem fw1 (x y z : Value) (W : World) : (Instr.field 99 (.agg #[x, y, z]) 1).run Tryz.prog W = .ok y W := by kernel_rfl
theorem fw2 (x y z : Value) (W : World) : (Instr.field 99 (.agg #[x, y, z]) 2).run Tryz.prog W = .ok z W := by kernel_rfl
attribute [local go_sem] fw0 fw1 fw2
set_option maxRecDepth 100000 in
set_option maxHeartbeats 4000000 in
theorem word_any {w : World} {b : Nat} {p : Option Addr} {c : Nat} {ws : List Wd} {s : PS} (H : Ps w b p c ws s) :
    Calls Tryz.prog 64 #[.pointer (some ⟨b, 0, none⟩)] w fun e w' => e = .returned (wdV (wAt ws s.at')) ∧ Below w.heap.size w w' := by
  obtain ⟨g, rfl, hg, hne, c0, c1, c2⟩ := H.word_at
  have hrow := H.row
  have hcap := H.sl.cap
  have hlt := H.lt
  unfold psRow at hrow
  unfold wdV
  generalize ((wAt ws s.at').k : Int) = k at c0 ⊢
  generalize wdS (wAt ws s.at') = t at c1 ⊢
  generalize ((wAt ws s.at').a : Int) = m at c2 ⊢
  generalize ws.length = n at hrow hcap hlt
  generalize s.at' = i at hrow hlt c0 c1 c2
  generalize Value.int .i64 (s.ex : Int) = ex at hrow
  generalize Value.int .i64 (s.ne : Int) = ne at hrow
  generalize Value.int .i64 (s.er : Int) = er at hrow
  generalize Value.int .i64 (s.pl : Int) = pl at hrow
  have hmx : maxLen = 9223372036854775807 := rfl
  have hlt' : (i : Int) < (n : Int) := by omega
  obtain ⟨w1, hw1⟩ : ∃ w1, w.alloc (.cells #[.int .i64 0, .string ⟨#[]⟩, .int .i64 0] 99) = w1 := ⟨_, rfl⟩
  have hb1 : Below w.heap.size w w1 := by rw [← hw1]; exact (Below.refl _ w).alloc (Nat.le_refl _) _
  have rz : w1.heap[w.heap.size]? = some (.cells #[.int .i64 0, .string ⟨#[]⟩, .int .i64 0] 99 (0, 0)) := by rw [← hw1]; exact heap_alloc_new _ _
  have r1 := (hb1.block _ (lt_of_row hrow)).trans hrow
  replace c0 := (cell_later hb1 hg).trans c0
  replace c1 := (cell_later hb1 hg).trans c1
  replace c2 := (cell_later hb1 hg).trans c2
  have hg1 : g < w1.heap.size := Nat.lt_of_lt_of_le hg hb1.size
  clear H hrow
  go_enter Tryz.func64, Tryz.ntmps64
  go_wp2
  refine any_tail (by kernel_rfl) 10 (by exact Nat.le_of_ble_eq_true rfl) (fun i => i + 3) (mixR [] [.pointer (some ⟨b, 0, none⟩), .pointer (some ⟨b, 0, none⟩), .pointer (some ⟨b, 0, none⟩), .slice (some ⟨g, 0, none⟩) n c, .pointer (some ⟨b, 0, none⟩), .pointer (some ⟨b, 0, none⟩), .pointer (some ⟨b, 1, none⟩), .int .i64 (i : Int), .pointer (some ⟨g, i * 3, none⟩), .agg #[.int .i64 k, .string t, .int .i64 m]]) (by kernel_rfl) (by kernel_rfl) (by kernel_rfl) (by kernel_rfl) (mixR_later _ _ (stab_nil)) ?step ?post
  case step =>
    intro iq hiq a W hrest hb hk
    have hp0 : a.eval (.tmp 0) = .pointer (some ⟨b, 0, none⟩) := (hrest 0 (by intro iq2 hiq2; (repeat' split) <;> omega)).trans rfl
    have fp0 := ev hp0
    have hx0 : W.heap[b]? = some (.cells #[.slice (some ⟨g, 0, none⟩) n c, .int .i64 (i : Int), ex, ne, er, pl] 87 (0, 0)) := (hb.block _ (lt_of_row r1)).trans r1
    clear hrest
    obtain rfl | rfl | rfl | rfl | rfl | rfl | rfl | rfl | rfl | rfl : iq = 0 ∨ iq = 1 ∨ iq = 2 ∨ iq = 3 ∨ iq = 4 ∨ iq = 5 ∨ iq = 6 ∨ iq = 7 ∨ iq = 8 ∨ iq = 9 := by omega
    · clear hiq
      clear hk
      refine ⟨_, rfl, rfl, rfl, wp_value (v := .pointer (some ⟨b, 0, none⟩)) (w' := W) ?_ ⟨_, rfl, Below.refl _ _, rfl⟩⟩
      go_simp
    · clear hiq
      have e0 : a.eval (.tmp 3) = .pointer (some ⟨b, 0, none⟩) := hk 0 (mem_of (by kernel_rfl))
      have f0 := ev e0
      clear hk
      refine ⟨_, rfl, rfl, rfl, wp_value (v := .pointer (some ⟨b, 0, none⟩)) (w' := W) ?_ ⟨_, rfl, Below.refl _ _, rfl⟩⟩
      go_simp
    · clear hiq
      have e1 : a.eval (.tmp 4) = .pointer (some ⟨b, 0, none⟩) := hk 1 (mem_of (by kernel_rfl))
      have f1 := ev e1
      clear hk
      refine ⟨_, rfl, rfl, rfl, wp_value (v := .pointer (some ⟨b, 0, none⟩)) (w' := W) ?_ ⟨_, rfl, Below.refl _ _, rfl⟩⟩
      go_simp
    · clear hiq
      have e2 : a.eval (.tmp 5) = .pointer (some ⟨b, 0, none⟩) := hk 2 (mem_of (by kernel_rfl))
      have f2 := ev e2
      have hc : W.cell? ⟨b, 0, none⟩ = some (.slice (some ⟨g, 0, none⟩) n c) := cell_of_row W _ 0 _ _ _ hx0
      clear hk
      refine ⟨_, rfl, rfl, rfl, wp_value (v := .slice (some ⟨g, 0, none⟩) n c) (w' := W) ?_ ⟨_, rfl, Below.refl _ _, rfl⟩⟩
      go_simp
    · clear hiq
      clear hk
      refine ⟨_, rfl, rfl, rfl, wp_value (v := .pointer (some ⟨b, 0, none⟩)) (w' := W) ?_ ⟨_, rfl, Below.refl _ _, rfl⟩⟩
      go_simp
    · clear hiq
      have e4 : a.eval (.tmp 7) = .pointer (some ⟨b, 0, none⟩) := hk 4 (mem_of (by kernel_rfl))
      have f4 := ev e4
      clear hk
      refine ⟨_, rfl, rfl, rfl, wp_value (v := .pointer (some ⟨b, 0, none⟩)) (w' := W) ?_ ⟨_, rfl, Below.refl _ _, rfl⟩⟩
      go_simp
    · clear hiq
      have e5 : a.eval (.tmp 8) = .pointer (some ⟨b, 0, none⟩) := hk 5 (mem_of (by kernel_rfl))
      have f5 := ev e5
      clear hk
      refine ⟨_, rfl, rfl, rfl, wp_value (v := .pointer (some ⟨b, 1, none⟩)) (w' := W) ?_ ⟨_, rfl, Below.refl _ _, rfl⟩⟩
      go_simp
    · clear hiq
      have e6 : a.eval (.tmp 9) = .pointer (some ⟨b, 1, none⟩) := hk 6 (mem_of (by kernel_rfl))
      have f6 := ev e6
      have hc : W.cell? ⟨b, 1, none⟩ = some (.int .i64 (i : Int)) := cell_of_row W _ 1 _ _ _ hx0
      clear hk
      refine ⟨_, rfl, rfl, rfl, wp_value (v := .int .i64 (i : Int)) (w' := W) ?_ ⟨_, rfl, Below.refl _ _, rfl⟩⟩
      go_simp
    · clear hiq
      have e3 : a.eval (.tmp 6) = .slice (some ⟨g, 0, none⟩) n c := hk 3 (mem_of (by kernel_rfl))
      have f3 := ev e3
      have e7 : a.eval (.tmp 10) = .int .i64 (i : Int) := hk 7 (mem_of (by kernel_rfl))
      have f7 := ev e7
      clear hk
      refine ⟨_, rfl, rfl, rfl, wp_value (v := .pointer (some ⟨g, i * 3, none⟩)) (w' := W) ?_ ⟨_, rfl, Below.refl _ _, rfl⟩⟩
      go_simp
    · clear hiq
      have e8 : a.eval (.tmp 11) = .pointer (some ⟨g, i * 3, none⟩) := hk 8 (mem_of (by kernel_rfl))
      have f8 := ev e8
      have k0 := (cell_later hb hg1).trans c0
      have k1 := (cell_later hb hg1).trans c1
      have k2 := (cell_later hb hg1).trans c2
      clear hk
      refine ⟨_, rfl, rfl, rfl, wp_value (v := .agg #[.int .i64 k, .string t, .int .i64 m]) (w' := W) ?_ ⟨_, rfl, Below.refl _ _, rfl⟩⟩
      go_simp
  case post =>
    intro V W hbW hV
    have e9 : V 9 = .agg #[.int .i64 k, .string t, .int .i64 m] := hV 9 (by omega)
    clear hV
    simp only [putAll, Nat.reduceAdd]
    rw [e9]
    simp only [Act.put, List.setIfInBounds_toArray, List.set_cons_zero, List.set_cons_succ]
    have q := (hbW.block _ (lt_of_row rz)).trans rz
    have x0 := cell_of_row W _ 0 _ _ _ q
    have x1 := cell_of_row W _ 1 _ _ _ q
    have x2 := cell_of_row W _ 2 _ _ _ q
    have f0 := frozen_of_row W _ 0 _ _ q
    have f1 := frozen_of_row W _ 1 _ _ q
    have f2 := frozen_of_row W _ 2 _ _ q
    have hBW : Below w.heap.size w W := hb1.trans (hbW.mono hb1.size)
    clear e9 c0 c1 c2 r1 hw1
    go_wp2
    exact bodyPost_ret (results_cell_row Tryz.results64 _ _ w.heap.size 99 _ (0, 0) _ rfl (set3_row q _ _ _) Tryz.underlying99 rfl (by kernel_rfl)) rfl ⟨rfl, set3_below hBW _ (Nat.le_refl _) _ _ _⟩
def failP (ws : List Wd) (s : PS) (e : Nat) : PS := if s.er = 0 then ⟨ws.length - 1, s.ex, s.ne, e, (wAt ws s.at').a⟩ else s
theorem failP_at (ws : List Wd) (s : PS) (e : Nat) (h : s.at' < ws.length) : (failP ws s e).at' < ws.length := by
  unfold failP
  split
  · show ws.length - 1 < ws.length
    omega
  · exact h
set_option maxRecDepth 100000 in
set_option maxHeartbeats 4000000 in
theorem fail_any {w : World} {b : Nat} {p : Option Addr} {c : Nat} {ws : List Wd} {s : PS} (H : Ps w b p c ws s) (e : Nat) :
    Calls Tryz.prog 63 #[.pointer (some ⟨b, 0, none⟩), .int .i64 (e : Int)] w fun r w' => r = .returned (.tuple #[]) ∧ Ps w' b p c ws (failP ws s e) ∧ Onl b w w' := by
  have hlt := H.lt
  have hfw := H.few
  have r0 := H.row
  have a4 := cell_of_row w _ 4 _ _ _ r0
  have hmx : maxLen = 9223372036854775807 := rfl
  have h2 := failP_at ws s e H.lt
  by_cases he : s.er = 0
  · have hf : failP ws s e = ⟨ws.length - 1, s.ex, s.ne, e, (wAt ws s.at').a⟩ := if_pos he
    rw [hf] at h2 ⊢
    have kw := word_any H
    unfold wdV at kw
    have HH : Hid (Ps w b p c ws s) := H
    obtain ⟨n, hn⟩ : ∃ n, ws.length = n := ⟨_, rfl⟩
    have hn1 : IntKind.i64.wrap ((n : Int) - 1) = ((n - 1 : Nat) : Int) := by rw [IntKind.wrap_i64]; omega
    have hn2 : wrap64 ((n : Int) - 1) = ((n - 1 : Nat) : Int) := by unfold wrap64; omega
    have HN : Hid (ws.length = n) := hn
    simp only [psRow, he, hn] at r0 a4
    rw [hn] at h2 ⊢
    have H2 : Hid (n - 1 < n) := h2
    clear H hf he h2
    go_enter Tryz.func63, Tryz.ntmps63
    go_wp2_with fail
    refine kw.mono ?_
    rintro q w1 ⟨rfl, hb1⟩
    have r1 := (hb1.block _ (lt_of_row r0)).trans r0
    have c0 := cell_of_row w1 _ 0 _ _ _ r1
    have c1 := cell_of_row w1 _ 1 _ _ _ r1
    have c4 := cell_of_row w1 _ 4 _ _ _ r1
    have c5 := cell_of_row w1 _ 5 _ _ _ r1
    have f1 := frozen_of_row w1 _ 1 _ _ r1
    have f4 := frozen_of_row w1 _ 4 _ _ r1
    have f5 := frozen_of_row w1 _ 5 _ _ r1
    have s1 := heap_setCell_same w1 b 4 _ _ (.int .i64 (e : Int)) r1
    have s2 := heap_setCell_same _ b 5 _ _ (.int .i64 ((wAt ws s.at').a : Int)) s1
    have s3 := heap_setCell_same _ b 1 _ _ (.int .i64 ((n - 1 : Nat) : Int)) s2
    have ho := (((Onl.of (b := b) hb1).setCell 4 (.int .i64 (e : Int))).setCell 5 (.int .i64 ((wAt ws s.at').a : Int))).setCell 1 (.int .i64 ((n - 1 : Nat) : Int))
    clear kw a4 r0 s1 s2
    go_wp2
    go_end0
    refine ⟨rfl, HH.out.upd ho ?_ ?_, ho⟩
    · rw [HN.out]
      exact s3
    · rw [HN.out]
      exact H2.out
  · have hf : failP ws s e = s := if_neg he
    rw [hf]
    have he' : ¬ ((s.er : Int) = 0) := by omega
    simp only [psRow] at a4
    have HH : Hid (Ps w b p c ws s) := H
    clear H r0 hf he h2
    go_enter Tryz.func63, Tryz.ntmps63
    go_wp2
    exact bodyPost_ret (results_none rfl _ _ _) rfl ⟨rfl, HH.out, Onl.of (Below.refl _ _)⟩
def takeP (s : PS) : PS := { s with at' := s.at' + 1 }
set_option maxRecDepth 100000 in
set_option maxHeartbeats 4000000 in
theorem take_any {w : World} {b : Nat} {p : Option Addr} {c : Nat} {ws : List Wd} {s : PS} (H : Ps w b p c ws s) (h1 : s.at' + 1 < ws.length) :
    Calls Tryz.prog 109 #[.pointer (some ⟨b, 0, none⟩)] w fun r w' => r = .returned (.string (wdS (wAt ws s.at'))) ∧ Ps w' b p c ws (takeP s) ∧ Onl b w w' := by
  have hlt := H.lt
  have hfw := H.few
  have r0 := H.row
  have kw := word_any H
  unfold wdV at kw
  have HH : Hid (Ps w b p c ws s) := H
  obtain ⟨i, hi⟩ : ∃ i, s.at' = i := ⟨_, rfl⟩
  have HI : Hid (s.at' = i) := hi
  have H1 : Hid (s.at' + 1 < ws.length) := h1
  simp only [psRow] at r0
  rw [hi] at r0 hlt
  have hw1 : wrap64 ((i : Int) + 1) = (i : Int) + 1 := by unfold wrap64; omega
  have hw2 : IntKind.i64.wrap ((i : Int) + 1) = (i : Int) + 1 := by rw [IntKind.wrap_i64]; omega
  clear H hi h1
  go_enter Tryz.func109, Tryz.ntmps109
  go_wp2_with fail
  refine kw.mono ?_
  rintro q w1 ⟨rfl, hb1⟩
  have r1 := (hb1.block _ (lt_of_row r0)).trans r0
  have c1 := cell_of_row w1 _ 1 _ _ _ r1
  have f1 := frozen_of_row w1 _ 1 _ _ r1
  have s1 := heap_setCell_same w1 b 1 _ _ (.int .i64 ((i : Int) + 1)) r1
  have ho := (Onl.of (b := b) hb1).setCell 1 (.int .i64 ((i : Int) + 1))
  clear kw r0
  go_wp2
  go_ret
  refine ⟨rfl, HH.out.upd ho ?_ H1.out, ho⟩
  rw [s1]
  unfold psRow takeP
  rw [HI.out]
  rfl
def isW (x : Wd) (k : Nat) (t : ByteArray) : Bool := decide (x.k = k) && ((wdS x).toList == t.toList)
set_option maxRecDepth 100000 in
set_option maxHeartbeats 4000000 in
theorem is_any {w : World} {b : Nat} {p : Option Addr} {c : Nat} {ws : List Wd} {s : PS} (H : Ps w b p c ws s) (k : Nat) (t : ByteArray) :
    Calls Tryz.prog 108 #[.pointer (some ⟨b, 0, none⟩), .int .i64 (k : Int), .string t] w fun r w' => r = .returned (.bool (isW (wAt ws s.at') k t)) ∧ Below w.heap.size w w' := by
  have kw := word_any H
  unfold wdV at kw
  obtain ⟨x, hx⟩ : ∃ x, wAt ws s.at' = x := ⟨_, rfl⟩
  rw [hx] at kw
  rw [hx]
  obtain ⟨R, hR⟩ : ∃ R, isW x k t = R := ⟨_, rfl⟩
  rw [hR]
  have HR : Hid (isW x k t = R) := hR
  clear H hx hR
  obtain ⟨xk, hxk⟩ : ∃ xk, x.k = xk := ⟨_, rfl⟩
  obtain ⟨xt, hxt⟩ : ∃ xt, wdS x = xt := ⟨_, rfl⟩
  have HX : Hid (isW x k t = (decide (xk = k) && (xt.toList == t.toList))) := by unfold Hid isW; rw [hxk, hxt]
  rw [hxk, hxt] at kw
  clear hxk hxt
  go_enter Tryz.func108, Tryz.ntmps108
  go_wp2_with fail
  refine kw.mono ?_
  rintro q w1 ⟨rfl, hb1⟩
  have hB : ∀ o, Below w.heap.size w (w1.alloc o) := fun o => hb1.trans (((Below.refl _ w1).alloc (Nat.le_refl _) o).mono hb1.size)
  clear kw hb1
  by_cases hk : xk = k
  · subst hk
    go_wp2
    go_ret
    refine ⟨?_, hB _⟩
    rw [← HR.out, HX.out]
    show Ending.returned (Value.bool (xt.toList == t.toList)) = _
    simp
  · have hk' : ¬ ((xk : Int) = (k : Int)) := by omega
    go_wp2
    go_ret
    refine ⟨?_, hB _⟩
    rw [← HR.out, HX.out, decide_eq_false hk, Bool.false_and]
    rfl
/- A word that was next is taken. -/
def tookP (ws : List Wd) (s : PS) (k : Nat) (t : ByteArray) : PS := if isW (wAt ws s.at') k t then takeP s else s
/- The last word is the end, and nothing else is. -/
def Wz (ws : List Wd) : Prop := ∀ i, i < ws.length → ((wAt ws i).k = 0 ↔ i + 1 = ws.length)
theorem Wz.next {ws : List Wd} (h : Wz ws) {i : Nat} (hi : i < ws.length) (hk : (wAt ws i).k ≠ 0) : i + 1 < ws.length := by
  have := h i hi
  omega
theorem isW_kind {x : Wd} {k : Nat} {t : ByteArray} (h : isW x k t = true) : x.k = k := by
  unfold isW at h
  simp only [Bool.and_eq_true, decide_eq_true_eq] at h
  exact h.1
set_option maxHeartbeats 2000000 in
theorem took_any {w : World} {b : Nat} {p : Option Addr} {c : Nat} {ws : List Wd} {s : PS} (H : Ps w b p c ws s) (hz : Wz ws) (k : Nat) (hk : k ≠ 0) (t : ByteArray) :
    Calls Tryz.prog 77 #[.pointer (some ⟨b, 0, none⟩), .int .i64 (k : Int), .string t] w fun r w' => r = .returned (.bool (isW (wAt ws s.at') k t)) ∧ Ps w' b p c ws (tookP ws s k t) ∧ Onl b w w' := by
  have ki := is_any H k t
  unfold tookP
  cases hi : isW (wAt ws s.at') k t with
  | true =>
    rw [hi] at ki
    rw [if_pos rfl]
    have h1 := hz.next H.lt (by rw [isW_kind hi]; exact hk)
    have HH : Hid (Ps w b p c ws s) := H
    clear H hi
    go_enter Tryz.func77, Tryz.ntmps77
    go_wp2_with fail
    refine ki.mono ?_
    rintro q w1 ⟨rfl, hb1⟩
    have kt := take_any (HH.out.later hb1) h1
    go_wp2_with fail
    refine kt.mono ?_
    rintro q w2 ⟨rfl, hP, hO⟩
    have HP : Hid (Ps w2 b p c ws (takeP s) ∧ Onl b w w2) := ⟨hP, (Onl.of hb1).trans hO⟩
    clear kt hP hO ki h1
    go_wp2
    go_ret
    exact ⟨rfl, HP.out.1, HP.out.2⟩
  | false =>
    rw [hi] at ki
    rw [if_neg Bool.false_ne_true]
    have HH : Hid (Ps w b p c ws s) := H
    clear H hi
    go_enter Tryz.func77, Tryz.ntmps77
    go_wp2_with fail
    refine ki.mono ?_
    rintro q w1 ⟨rfl, hb1⟩
    go_wp2
    go_ret
    exact ⟨rfl, HH.out.later hb1, Onl.of hb1⟩
theorem tookKey_any {w : World} {b : Nat} {p : Option Addr} {c : Nat} {ws : List Wd} {s : PS} (H : Ps w b p c ws s) (hz : Wz ws) (t : ByteArray) :
    Calls Tryz.prog 57 #[.pointer (some ⟨b, 0, none⟩), .string t] w fun r w' => r = .returned (.bool (isW (wAt ws s.at') 2 t)) ∧ Ps w' b p c ws (tookP ws s 2 t) ∧ Onl b w w' := by
  have kt := took_any H hz 2 (by decide) t
  clear H
  go_enter Tryz.func57, Tryz.ntmps57
  go_wp2_with fail
  refine kt.mono ?_
  rintro q w1 ⟨rfl, hP, hO⟩
  have HP : Hid (Ps w1 b p c ws (tookP ws s 2 t) ∧ Onl b w w1) := ⟨hP, hO⟩
  clear kt hP hO
  go_wp2
  go_ret
  exact ⟨rfl, HP.out.1, HP.out.2⟩
theorem tookSign_any {w : World} {b : Nat} {p : Option Addr} {c : Nat} {ws : List Wd} {s : PS} (H : Ps w b p c ws s) (hz : Wz ws) (t : ByteArray) :
    Calls Tryz.prog 112 #[.pointer (some ⟨b, 0, none⟩), .string t] w fun r w' => r = .returned (.bool (isW (wAt ws s.at') 6 t)) ∧ Ps w' b p c ws (tookP ws s 6 t) ∧ Onl b w w' := by
  have kt := took_any H hz 6 (by decide) t
  clear H
  go_enter Tryz.func112, Tryz.ntmps112
  go_wp2_with fail
  refine kt.mono ?_
  rintro q w1 ⟨rfl, hP, hO⟩
  have HP : Hid (Ps w1 b p c ws (tookP ws s 6 t) ∧ Onl b w w1) := ⟨hP, hO⟩
  clear kt hP hO
  go_wp2
  go_ret
  exact ⟨rfl, HP.out.1, HP.out.2⟩
/- A word that must stand there. -/
def mustP (ws : List Wd) (s : PS) (k : Nat) (t : ByteArray) : PS := if isW (wAt ws s.at') k t then takeP s else failP ws s 120
theorem pkey_any {w : World} {b : Nat} {p : Option Addr} {c : Nat} {ws : List Wd} {s : PS} (H : Ps w b p c ws s) (hz : Wz ws) (t : ByteArray) :
    Calls Tryz.prog 79 #[.pointer (some ⟨b, 0, none⟩), .string t] w fun r w' => r = .returned (.tuple #[]) ∧ Ps w' b p c ws (mustP ws s 2 t) ∧ Onl b w w' := by
  have kt := tookKey_any H hz t
  unfold tookP at kt
  unfold mustP
  cases hi : isW (wAt ws s.at') 2 t with
  | true =>
    rw [hi, if_pos rfl] at kt
    rw [if_pos rfl]
    clear H hi
    go_enter Tryz.func79, Tryz.ntmps79
    go_wp2_with fail
    refine kt.mono ?_
    rintro q w1 ⟨rfl, hP, hO⟩
    have HP : Hid (Ps w1 b p c ws (takeP s) ∧ Onl b w w1) := ⟨hP, hO⟩
    clear kt hP hO
    go_wp2
    go_end0
    exact ⟨rfl, HP.out.1, HP.out.2⟩
  | false =>
    rw [hi, if_neg Bool.false_ne_true] at kt
    rw [if_neg Bool.false_ne_true]
    clear H hi
    go_enter Tryz.func79, Tryz.ntmps79
    go_wp2_with fail
    refine kt.mono ?_
    rintro q w1 ⟨rfl, hP, hO⟩
    have kf := fail_any hP 120
    have HO : Hid (Onl b w w1) := hO
    clear kt hP hO
    go_wp2_with fail
    refine kf.mono ?_
    rintro q w2 ⟨rfl, hP2, hO2⟩
    have HP : Hid (Ps w2 b p c ws (failP ws s 120) ∧ Onl b w w2) := ⟨hP2, HO.out.trans hO2⟩
    clear kf hP2 hO2
    go_wp2
    go_end0
    exact ⟨rfl, HP.out.1, HP.out.2⟩
theorem psign_any {w : World} {b : Nat} {p : Option Addr} {c : Nat} {ws : List Wd} {s : PS} (H : Ps w b p c ws s) (hz : Wz ws) (t : ByteArray) :
    Calls Tryz.prog 110 #[.pointer (some ⟨b, 0, none⟩), .string t] w fun r w' => r = .returned (.tuple #[]) ∧ Ps w' b p c ws (mustP ws s 6 t) ∧ Onl b w w' := by
  have kt := tookSign_any H hz t
  unfold tookP at kt
  unfold mustP
  cases hi : isW (wAt ws s.at') 6 t with
  | true =>
    rw [hi, if_pos rfl] at kt
    rw [if_pos rfl]
    clear H hi
    go_enter Tryz.func110, Tryz.ntmps110
    go_wp2_with fail
    refine kt.mono ?_
    rintro q w1 ⟨rfl, hP, hO⟩
    have HP : Hid (Ps w1 b p c ws (takeP s) ∧ Onl b w w1) := ⟨hP, hO⟩
    clear kt hP hO
    go_wp2
    go_end0
    exact ⟨rfl, HP.out.1, HP.out.2⟩
  | false =>
    rw [hi, if_neg Bool.false_ne_true] at kt
    rw [if_neg Bool.false_ne_true]
    clear H hi
    go_enter Tryz.func110, Tryz.ntmps110
    go_wp2_with fail
    refine kt.mono ?_
    rintro q w1 ⟨rfl, hP, hO⟩
    have kf := fail_any hP 120
    have HO : Hid (Onl b w w1) := hO
    clear kt hP hO
    go_wp2_with fail
    refine kf.mono ?_
    rintro q w2 ⟨rfl, hP2, hO2⟩
    have HP : Hid (Ps w2 b p c ws (failP ws s 120) ∧ Onl b w w2) := ⟨hP2, HO.out.trans hO2⟩
    clear kf hP2 hO2
    go_wp2
    go_end0
    exact ⟨rfl, HP.out.1, HP.out.2⟩
theorem end_any {w : World} {b : Nat} {p : Option Addr} {c : Nat} {ws : List Wd} {s : PS} (H : Ps w b p c ws s) :
    Calls Tryz.prog 43 #[.pointer (some ⟨b, 0, none⟩)] w fun r w' => r = .returned (.tuple #[]) ∧ Ps w' b p c ws (if (wAt ws s.at').k = 0 then s else failP ws s 120) ∧ Onl b w w' := by
  have kw := word_any H
  unfold wdV at kw
  by_cases hk : (wAt ws s.at').k = 0
  · rw [if_pos hk]
    have hk' : ((wAt ws s.at').k : Int) = 0 := by omega
    rw [hk'] at kw
    have HH : Hid (Ps w b p c ws s) := H
    clear H hk hk'
    go_enter Tryz.func43, Tryz.ntmps43
    go_wp2_with fail
    refine kw.mono ?_
    rintro q w1 ⟨rfl, hb1⟩
    go_wp2
    go_end0
    exact ⟨rfl, HH.out.later hb1, Onl.of hb1⟩
  · rw [if_neg hk]
    have hk' : ¬ ((wAt ws s.at').k : Int) = 0 := by omega
    generalize ((wAt ws s.at').k : Int) = kk at kw hk'
    have HH : Hid (Ps w b p c ws s) := H
    clear H hk
    go_enter Tryz.func43, Tryz.ntmps43
    go_wp2_with fail
    refine kw.mono ?_
    rintro q w1 ⟨rfl, hb1⟩
    have kf := fail_any (HH.out.later hb1) 120
    clear kw
    go_wp2_with fail
    refine kf.mono ?_
    rintro q w2 ⟨rfl, hP2, hO2⟩
    have HP : Hid (Ps w2 b p c ws (failP ws s 120) ∧ Onl b w w2) := ⟨hP2, (Onl.of hb1).trans hO2⟩
    clear kf hP2 hO2
    go_wp2
    go_end0
    exact ⟨rfl, HP.out.1, HP.out.2⟩
/- A name that must stand there: the text, and where the parser stands then. -/
def nameP (ws : List Wd) (s : PS) : PS := if (wAt ws s.at').k = 1 then takeP s else failP ws s 120
def nameS (ws : List Wd) (s : PS) : ByteArray := if (wAt ws s.at').k = 1 then wdS (wAt ws s.at') else ⟨#[]⟩
theorem pname_any {w : World} {b : Nat} {p : Option Addr} {c : Nat} {ws : List Wd} {s : PS} (H : Ps w b p c ws s) (hz : Wz ws) :
    Calls Tryz.prog 78 #[.pointer (some ⟨b, 0, none⟩)] w fun r w' => r = .returned (.string (nameS ws s)) ∧ Ps w' b p c ws (nameP ws s) ∧ Onl b w w' := by
  have kw := word_any H
  unfold wdV at kw
  unfold nameS nameP
  by_cases hk : (wAt ws s.at').k = 1
  · rw [if_pos hk, if_pos hk]
    have h1 := hz.next H.lt (by omega)
    have hk' : ((wAt ws s.at').k : Int) = 1 := by omega
    rw [hk'] at kw
    have HH : Hid (Ps w b p c ws s) := H
    clear H hk hk'
    go_enter Tryz.func78, Tryz.ntmps78
    go_wp2_with fail
    refine kw.mono ?_
    rintro q w1 ⟨rfl, hb1⟩
    have kt := take_any (HH.out.later hb1) h1
    clear kw h1
    go_wp2_with fail
    refine kt.mono ?_
    rintro q w2 ⟨rfl, hP, hO⟩
    have HP : Hid (Ps w2 b p c ws (takeP s) ∧ Onl b w w2) := ⟨hP, (Onl.of hb1).trans hO⟩
    clear kt hP hO
    go_wp2
    go_ret
    exact ⟨rfl, HP.out.1, HP.out.2⟩
  · rw [if_neg hk, if_neg hk]
    have hk' : ¬ ((wAt ws s.at').k : Int) = 1 := by omega
    generalize ((wAt ws s.at').k : Int) = kk at kw hk'
    have HH : Hid (Ps w b p c ws s) := H
    clear H hk
    go_enter Tryz.func78, Tryz.ntmps78
    go_wp2_with fail
    refine kw.mono ?_
    rintro q w1 ⟨rfl, hb1⟩
    have kf := fail_any (HH.out.later hb1) 120
    clear kw
    go_wp2_with fail
    refine kf.mono ?_
    rintro q w2 ⟨rfl, hP2, hO2⟩
    have HP : Hid (Ps w2 b p c ws (failP ws s 120) ∧ Onl b w w2) := ⟨hP2, (Onl.of hb1).trans hO2⟩
    clear kf hP2 hO2
    go_wp2
    go_ret
    exact ⟨rfl, HP.out.1, HP.out.2⟩
end Go.Proofs.YtcniebkehekliaaGreatDoor
