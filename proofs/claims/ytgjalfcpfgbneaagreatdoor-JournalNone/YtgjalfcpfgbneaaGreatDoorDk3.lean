/- A file's block (Fl); bytes are put behind a new file (loosen, add); find, Read. -/
import Derived.Test.YtgjalfcpfgbneaaGreatDoorDk2
import Derived.Lib.AppendStr
import Derived.Deep.AppendLies
namespace Go.Proofs.YtgjalfcpfgbneaaGreatDoor
open Go.RowKit
def Fl (w : World) (f : Nat) (bv : Value) (sure : Int) (ov : Value) : Prop := w.heap[f]? = some (.cells #[bv, .int .i64 sure, ov] 97 (0, 0))
theorem Fl.cells {w : World} {f : Nat} {bv ov : Value} {sure : Int} (h : Fl w f bv sure ov) : w.cell? ⟨f, 0, none⟩ = some bv ∧ w.cell? ⟨f, 1, none⟩ = some (.int .i64 sure) ∧ w.cell? ⟨f, 2, none⟩ = some ov :=
  ⟨cell_of_row _ _ 0 _ _ _ h, cell_of_row _ _ 1 _ _ _ h, cell_of_row _ _ 2 _ _ _ h⟩
theorem Fl.fro {w : World} {f : Nat} {bv ov : Value} {sure : Int} (h : Fl w f bv sure ov) (k : Nat) : w.frozen? ⟨f, k, none⟩ = false := frozen_of_row _ _ k _ _ h
theorem info5 : (Tryz.prog.info? 5).map (fun i => (i.zero, i.size, i.bytes)) = some (some (.int .u8 0), 1, 1) := by kernel_rfl
set_option maxHeartbeats 2000000 in
theorem loosen_none {f : Nat} {bv ov : Value} (a n : Int) (ha : 0 ≤ a) (hn : 0 ≤ n) (h9 : a + n ≤ 1000000000) (w : World) (h : Fl w f bv 0 ov) :
    Calls Tryz.prog 85 #[.pointer (some ⟨f, 0, none⟩), .int .i64 a, .int .i64 n] w fun e w' => e = .returned (.tuple #[]) ∧ w' = w := by
  obtain ⟨c0, c1, c2⟩ := h.cells
  by_cases hz : n = 0
  · subst hz
    go_enter Tryz.func85, Tryz.ntmps85
    go_wp2
    exact bodyPost_ret (results_none Tryz.results85 _ _ _) rfl ⟨rfl, rfl⟩
  · have hB : (n == 0) = false := beq_eq_false_iff_ne.2 hz
    have hmin : min (a + n) 0 = 0 := by omega
    obtain ⟨k, hk⟩ : ∃ k : Int, a / 64 = k := ⟨_, rfl⟩
    have hk0 : 0 ≤ k := by omega
    have hk1 : k ≤ 1000000000 := by omega
    go_enter Tryz.func85, Tryz.ntmps85
    go_wp2_with fail
    go_loopw [7] (fun vk wr => vk = .int .i64 k ∧ wr = w) (fun _ _ => 0)
    case atStart => exact ⟨by rw [hk], rfl⟩
    case round =>
      obtain ⟨rfl, rfl⟩ := hrel
      have hno : ¬ k * 64 < 0 := by omega
      go_wp2
      go_end0
      exact ⟨rfl, rfl⟩
theorem own_slice {w : World} {base : Nat} {e : TypeId} {v : Value} {n : Nat} {xs : List Value} (h : w.ownsRow base e 1 v n xs) : ∃ p cap, v = .slice p n cap ∧ (n ≤ cap ∧ cap ≤ maxLen) := by
  obtain ⟨hl, h0⟩ := h
  rcases h0 with ⟨rfl, h0⟩ | ⟨g, cap, cur, rfl, h1, h2, h3, h4, h5, h6⟩
  · exact ⟨none, 0, by rw [h0], by unfold maxLen; omega⟩
  · exact ⟨_, _, rfl, h3, h4⟩
theorem own_kept {w w' : World} {base : Nat} {e : TypeId} {v : Value} {n : Nat} {xs : List Value} (h : w.ownsRow base e 1 v n xs) (hk : ∀ g, v.ownBlock = some g → w'.heap[g]? = w.heap[g]?) : w'.ownsRow base e 1 v n xs := by
  refine ⟨h.1, ?_⟩
  rcases h.2 with h1 | ⟨g, cap, cur, rfl, h2, h3, h4⟩
  · exact Or.inl h1
  · exact Or.inr ⟨g, cap, cur, rfl, h2, (hk g rfl).trans h3, h4⟩
set_option maxRecDepth 100000 in
set_option maxHeartbeats 2000000 in
theorem add_new {f : Nat} {ov : Value} (s : ByteArray) (hs : s.size ≤ 1000000) (w : World) (h : Fl w f (.slice none 0 0) 0 ov) :
    Calls Tryz.prog 73 #[.pointer (some ⟨f, 0, none⟩), .string s] w fun e w' => e = .returned (.tuple #[]) ∧ ∃ v, Fl w' f v 0 ov ∧ w'.ownsRow w.heap.size 5 1 v s.size (Lib.strCells s) ∧ Chg (fun k => k = f) w w' := by
  obtain ⟨c0, c1, c2⟩ := h.cells
  have f0 := h.fro 0
  obtain ⟨i5, hi, hz0, hz1, hz2⟩ := info_parts info5
  have hfl : f < w.heap.size := lt_of_row h
  go_enter Tryz.func73, Tryz.ntmps73
  go_wp2_with fail
  refine (loosen_none 0 (s.size : Int) (by omega) (by omega) (by omega) _ h).mono ?_
  rintro e w1 ⟨rfl, rfl⟩
  go_wp2_with (at_builtin; refine Lib.wpList_append_own_string _ rfl _ _ 65 9 rfl w1.heap.size 5 i5 Tryz.underlying65 Tryz.underlying9 hi hz0 hz1 hz2 (.slice none 0 0) 0 [] rfl (World.ownsRow_nil _ _ _ _) s rfl (by unfold maxLen; omega) (by omega) (Nat.le_refl _) ?_; intro v w2 hown hgr _; rw [Nat.zero_add, List.nil_append] at hown; obtain ⟨pv, pc, rfl, hpc⟩ := own_slice hown; have h2 : Fl w2 f (.slice none 0 0) 0 ov := (hgr.block f hfl (by simp [Value.ownBlock])).trans h; have e0 := (h2.cells).1; have g0 := h2.fro 0)
  go_end0
  refine ⟨rfl, _, row_setCell (k := 0) h2 _, own_kept hown (fun g hg => Below.heap_setCell _ _ _ _ (by have := (hown.lt g hg).1; show g ≠ f; omega)), ⟨hgr.os, hgr.tape, hgr.output, by have := hgr.size; simpa using this, fun k hk hn => ?_⟩⟩
  rw [Below.heap_setCell _ _ _ _ (by show k ≠ f; exact hn), hgr.block k hk (by simp [Value.ownBlock])]
set_option maxRecDepth 20000 in
set_option maxHeartbeats 2000000 in
theorem find_one {d m k b : Nat} {sec used ch : Int} {pl : Value} {D : DataW Unit} (n : Int) (hI : I64 n) (w : World) (h : Dk w d (.map (some m)) sec used ch pl false) (hm : Mp w m k D) (hD : D.atKey (.int .i64 n) .nil = .lit (.int .u64 (b : Int))) :
    Calls Tryz.prog 53 #[.pointer (some ⟨d, 0, none⟩), .int .i64 n] w fun e w' => e = .returned (.tuple #[.pointer (some ⟨b, 0, none⟩), .int .i64 0]) ∧ w' = w := by
  obtain ⟨c0, c1, c2, c3, c4, c5⟩ := h.cells
  have hl := hm.look hI hD
  go_enter Tryz.func53, Tryz.ntmps53
  go_wp2_with fail
  refine (dead_any _ h).mono ?_
  rintro e w1 ⟨rfl, rfl⟩
  go_wp2
  go_ret2
  exact ⟨rfl, rfl⟩
set_option maxRecDepth 20000 in
set_option maxHeartbeats 2000000 in
theorem length_one {d m k b : Nat} {sec used ch : Int} {pl bp : Value} {p : Option Addr} {l c : Nat} {sure : Int} {dead : Bool} {D : DataW Unit} (n : Int) (hI : I64 n) (w : World) (h : Dk w d (.map (some m)) sec used ch pl dead) (hm : Mp w m k D) (hD : D.atKey (.int .i64 n) .nil = .lit (.int .u64 (b : Int))) (hf : Fl w b (.slice p l c) sure bp) :
    Calls Tryz.prog 71 #[.pointer (some ⟨d, 0, none⟩), .int .i64 n] w fun e w' => e = .returned (.int .i64 (l : Int)) ∧ w' = w := by
  obtain ⟨c0, c1, c2, c3, c4, c5⟩ := h.cells
  obtain ⟨g0, g1, g2⟩ := hf.cells
  have hl := hm.look hI hD
  go_enter Tryz.func71, Tryz.ntmps71
  go_wp2
  go_ret
  exact ⟨rfl, rfl⟩
theorem not_empty (s : ByteArray) (h : 0 < s.size) : s.toList.isEmpty = false := by
  rw [ByteArray.toList_eq]
  have h1 : 0 < s.data.toList.length := by rw [Array.length_toList]; exact h
  cases hE : s.data.toList with
  | nil => rw [hE] at h1; exact absurd h1 (Nat.lt_irrefl _)
  | cons a l => rfl
theorem Chg.drewN {S : Nat → Prop} {w w' : World} (h : Chg S w w') (n : Nat) : Chg S w (w'.drewN n) := ⟨h.os, h.tape, h.output, h.size, h.block⟩
set_option maxRecDepth 20000 in
set_option maxHeartbeats 4000000 in
theorem append_new {d : Nat} {sec : Int} {c : Nat} {p : Option Addr} (n : Int) (hI : I64 n) (hn : 0 ≤ n) (s : ByteArray) (hs : s.size ≤ 1000000) (hs0 : 0 < s.size) (hroom : secN (s.size : Int) ≤ sec) (w : World) (h : Dk w d (.map none) sec 0 0 (.slice p 0 c) false) :
    Calls Tryz.prog 42 #[.pointer (some ⟨d, 0, none⟩), .int .i64 n, .string s] w fun e w' => e = .returned (.tuple #[.int .i64 0, .int .i64 0]) ∧ ∃ v, Dk w' d (.map (some w.heap.size)) sec (secN (s.size : Int)) 1 (.slice p 0 c) false ∧ Mp w' w.heap.size 1 (.map [(.int .i64 n, .lit (.int .u64 ((w.heap.size + 1 : Nat) : Int)))]) ∧ Fl w' (w.heap.size + 1) v 0 (.map none) ∧
      w'.ownsRow (w.heap.size + 2) 5 1 v s.size (Lib.strCells s) ∧ Chg (fun k => k = d) w w' := by
  obtain ⟨c0, c1, c2, c3, c4, c5⟩ := h.cells
  have hsec := fun w => sectors_any (s.size : Int) (by omega) (by omega) w
  have hsec0 := fun w => sectors_any 0 (by omega) (by omega) w
  have hz : secN 0 = 0 := by decide
  rw [hz] at hsec0
  have hsn : 0 ≤ secN (s.size : Int) ∧ secN (s.size : Int) ≤ 1000000 := by unfold secN; omega
  obtain ⟨q, hq⟩ : ∃ q, secN (s.size : Int) = q := ⟨_, rfl⟩
  rw [hq] at hsec hroom hsn ⊢
  clear hq hz
  have hne := not_empty s hs0
  have hn0 : ¬ n < 0 := by omega
  have hrr : ¬ sec < q := by omega
  go_enter Tryz.func42, Tryz.ntmps42
  go_wp2_with fail
  refine (dead_any _ h).mono ?_
  rintro e w1 ⟨rfl, rfl⟩
  go_wp2_with fail
  refine (length_none n hI _ h).mono ?_
  rintro e w2 ⟨rfl, rfl⟩
  go_wp2_with fail
  go_quiet (first | (go_at_call_of 38 s; exact Calls.quiet_of_same (hsec _)) | (go_at_call 38; exact Calls.quiet_of_same (hsec0 _)))
  have hd := h.drewN nq
  obtain ⟨b0, b1, b2, b3, b4, b5⟩ := hd.cells
  go_wp2_with fail
  refine (struck_none ⟨by omega, by omega⟩ _ hd).mono ?_
  rintro e w3 ⟨rfl, n3, hw3⟩
  have h3 : Dk w3 d (.map none) sec 0 1 (.slice p 0 c) false := by rw [hw3]; exact row_setCell (k := 3) (hd.drewN n3) _
  have hC3 : Chg (fun k => k = d) w2 w3 := by
    rw [hw3]
    refine ⟨rfl, rfl, rfl, by simp [World.drewN], fun k hk hn => ?_⟩
    rw [Below.heap_setCell _ _ _ _ (by show k ≠ d; exact hn)]
    rfl
  have hs3 : w3.heap.size = w2.heap.size := by rw [hw3]; simp [World.drewN]
  have HS3 : Hid (w3.heap.size = w2.heap.size) := hs3
  clear hw3 hs3 b0 b1 b2 b3 b4 b5 hd
  go_wp2_with fail
  refine (open_none n hI _ h3).mono ?_
  rintro e w4 ⟨rfl, h4, hm4, hf4, hC4⟩
  go_wp2_with fail
  refine (add_new s hs _ hf4).mono ?_
  rintro e w5 ⟨rfl, v, hf5, hown, hC5⟩
  have hdl3 : d < w3.heap.size := lt_of_row h3
  have hfl4 : w3.heap.size + 1 < w4.heap.size := lt_of_row hf4
  have hml : w3.heap.size < w4.heap.size := by omega
  have h5 : Dk w5 d (.map (some w3.heap.size)) sec 0 1 (.slice p 0 c) false := (hC5.block d (by omega) (by show d ≠ w3.heap.size + 1; omega)).trans h4
  have hm5 := mp_kept hm4 (hC5.block _ hml (by show w3.heap.size ≠ w3.heap.size + 1; omega))
  obtain ⟨b0, b1, b2, b3, b4, b5⟩ := h5.cells
  have f2 := h5.fro 2
  go_wp2
  go_ret2
  have hs3 := HS3.out
  have h6 := row_setCell (k := 2) h5 (.int .i64 q)
  have hlow := hown.lt
  refine ⟨rfl, v, ?_, ?_, ?_, ?_, ?_⟩
  · rw [← hs3]; exact h6
  · rw [← hs3]
    exact mp_kept hm5 (Below.heap_setCell _ _ _ _ (by show w3.heap.size ≠ d; omega))
  · rw [← hs3]
    exact (Below.heap_setCell _ _ _ _ (by show w3.heap.size + 1 ≠ d; omega)).trans hf5
  · have hb : w2.heap.size + 2 ≤ w4.heap.size := by omega
    have h7 := own_kept (w' := w5.setCell ⟨d, 2, none⟩ (.int .i64 q)) hown (fun g hg => Below.heap_setCell _ _ _ _ (by have := (hlow g hg).1; show g ≠ d; omega))
    refine ⟨h7.1, ?_⟩
    rcases h7.2 with e1 | ⟨g, cap, cur, e1, e2, e3⟩
    · exact Or.inl e1
    · exact Or.inr ⟨g, cap, cur, e1, by omega, e3⟩
  · have t1 : Chg (fun k => k = d) w2 w4 := hC3.trans hC4 (fun k hk => Or.inl hk)
    have t2 : Chg (fun k => k = d) w2 w5 := t1.trans hC5 (fun k hk => Or.inr (by show w2.heap.size ≤ k; have hk' : k = w3.heap.size + 1 := hk; omega))
    exact t2.trans (S' := fun k => k = d) ⟨rfl, rfl, rfl, by simp, fun k hk hn => Below.heap_setCell _ _ _ _ (by show k ≠ d; exact hn)⟩ (fun k hk => Or.inl hk)
end Go.Proofs.YtgjalfcpfgbneaaGreatDoor
