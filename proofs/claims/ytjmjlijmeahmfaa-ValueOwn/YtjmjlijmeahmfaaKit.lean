/- What a call leaves as it was (Only), a cursor's block (Cur), and the small calls of a cursor: Err, Off, Fail, skip, At; each of a nil cursor and of one that is there. -/
import Derived.Test.YtjmjlijmeahmfaaMath
import Derived.Test.YtjmjlijmeahmfaaRows
import Derived.WalkKit
import Derived.WalkSpells
import Derived.WalkLawsBesides
import Derived.Deep.QuietTactic
import Derived.BigQuiet
namespace Go.Proofs.Ytjmjlijmeahmfaa
open Go.RowKit
structure Only (b : Nat) (w w' : World) : Prop where
  os : w'.os = w.os
  tape : w'.tape = w.tape
  output : w'.output = w.output
  size : w.heap.size ≤ w'.heap.size
  block : ∀ k, k < w.heap.size → k ≠ b → w'.heap[k]? = w.heap[k]?
theorem Only.refl (b : Nat) (w : World) : Only b w w := ⟨rfl, rfl, rfl, Nat.le_refl _, fun _ _ _ => rfl⟩
theorem Only.trans {b : Nat} {u v w : World} (h : Only b u v) (k : Only b v w) : Only b u w :=
  ⟨k.os.trans h.os, k.tape.trans h.tape, k.output.trans h.output, Nat.le_trans h.size k.size, fun i hi hb => (k.block i (Nat.lt_of_lt_of_le hi h.size) hb).trans (h.block i hi hb)⟩
theorem Only.drewN {b : Nat} {u v : World} (h : Only b u v) (n : Nat) : Only b u (v.drewN n) := ⟨h.os, h.tape, h.output, h.size, h.block⟩
theorem Only.setCell {b : Nat} {u v : World} (h : Only b u v) (o : Nat) (x : Value) : Only b u (v.setCell ⟨b, o, none⟩ x) :=
  ⟨h.os, h.tape, h.output, by simpa using h.size, fun k hk hb => (Below.heap_setCell v ⟨b, o, none⟩ x k hb).trans (h.block k hk hb)⟩
theorem Only.ofBelow {b : Nat} {u v : World} (h : Below u.heap.size u v) : Only b u v := ⟨h.os, h.tape, h.output, h.size, fun k hk _ => h.block k hk⟩
theorem Only.below {b B : Nat} {u v : World} (h : Only b u v) (hb : B ≤ b) (hB : B ≤ u.heap.size) : Below B u v :=
  ⟨h.os, h.tape, h.output, h.size, fun k hk => h.block k (by omega) (by omega)⟩
theorem lt_of_row {W : World} {g : Nat} {o : Obj} (h1 : W.heap[g]? = some o) : g < W.heap.size := by
  rcases Nat.lt_or_ge g W.heap.size with h | h
  · exact h
  · rw [Array.getElem?_eq_none h] at h1; cases h1
theorem row_setCell {W : World} {g k : Nat} {cs : Array Value} {t : TypeId} {fr : Nat × Nat} (h : W.heap[g]? = some (.cells cs t fr)) (x : Value) :
    (W.setCell ⟨g, k, none⟩ x).heap[g]? = some (.cells (cs.setIfInBounds k x) t fr) := by
  have hl := lt_of_row h
  rw [Array.getElem?_eq_getElem hl] at h
  injection h with h
  unfold World.setCell
  rw [Array.getElem?_modify]
  simp [hl, h]
def Cur (W : World) (b : Nat) (s : ByteArray) (o e : Int) : Prop := W.heap[b]? = some (.cells #[.string s, .int .i64 o, .int .i64 e] 101 (0, 0))
theorem Cur.c0 {W : World} {b : Nat} {s : ByteArray} {o e : Int} (h : Cur W b s o e) : W.cell? ⟨b, 0, none⟩ = some (.string s) := cell_of_row W _ 0 _ _ _ h
theorem Cur.c1 {W : World} {b : Nat} {s : ByteArray} {o e : Int} (h : Cur W b s o e) : W.cell? ⟨b, 1, none⟩ = some (.int .i64 o) := cell_of_row W _ 1 _ _ _ h
theorem Cur.c2 {W : World} {b : Nat} {s : ByteArray} {o e : Int} (h : Cur W b s o e) : W.cell? ⟨b, 2, none⟩ = some (.int .i64 e) := cell_of_row W _ 2 _ _ _ h
theorem Cur.f {W : World} {b : Nat} {s : ByteArray} {o e : Int} (h : Cur W b s o e) (k : Nat) : W.frozen? ⟨b, k, none⟩ = false := frozen_of_row W _ _ _ _ h
theorem Cur.set1 {W : World} {b : Nat} {s : ByteArray} {o e : Int} (h : Cur W b s o e) (x : Int) : Cur (W.setCell ⟨b, 1, none⟩ (.int .i64 x)) b s x e := row_setCell h _
theorem Cur.set2 {W : World} {b : Nat} {s : ByteArray} {o e : Int} (h : Cur W b s o e) (x : Int) : Cur (W.setCell ⟨b, 2, none⟩ (.int .i64 x)) b s o x := row_setCell h _
theorem Cur.drewN {W : World} {b : Nat} {s : ByteArray} {o e : Int} (h : Cur W b s o e) (n : Nat) : Cur (W.drewN n) b s o e := h
theorem Cur.later {W W' : World} {b : Nat} {s : ByteArray} {o e : Int} (h : Cur W b s o e) (hb : Below W.heap.size W W') : Cur W' b s o e := (hb.block b (lt_of_row h)).trans h
theorem Cur.apart {W W' : World} {b d : Nat} {s : ByteArray} {o e : Int} (h : Cur W b s o e) (hb : Only d W W') (hd : b ≠ d) : Cur W' b s o e := (hb.block b (lt_of_row h) hd).trans h
set_option maxHeartbeats 400000 in
theorem err_nil (w : World) : Calls Try.prog 77 #[.pointer none] w fun e w' => e = .returned (.int .i64 1) ∧ w' = w := by
  go_enter Try.func77, Try.ntmps77
  go_wp2
  go_ret
  exact ⟨rfl, rfl⟩
set_option maxHeartbeats 400000 in
theorem err_at {w : World} {b : Nat} {s : ByteArray} {o er : Int} (h : Cur w b s o er) : Calls Try.prog 77 #[.pointer (some ⟨b, 0, none⟩)] w fun e w' => e = .returned (.int .i64 er) ∧ w' = w := by
  have h2 := h.c2
  go_enter Try.func77, Try.ntmps77
  go_wp2
  go_ret
  exact ⟨rfl, rfl⟩
set_option maxHeartbeats 400000 in
theorem fail_nil (x : Int) (w : World) : Calls Try.prog 71 #[.pointer none, .int .i64 x] w fun e w' => e = .returned (.tuple #[]) ∧ w' = w := by
  go_enter Try.func71, Try.ntmps71
  go_wp2_with fail
  refine (err_nil _).mono ?_
  rintro e w1 ⟨rfl, rfl⟩
  go_wp2
  go_end0
  exact ⟨rfl, rfl⟩
set_option maxHeartbeats 400000 in
theorem fail_at {w : World} {b : Nat} {s : ByteArray} {o er : Int} (hcu : Cur w b s o er) (x : Int) : Calls Try.prog 71 #[.pointer (some ⟨b, 0, none⟩), .int .i64 x] w fun e w' => e = .returned (.tuple #[]) ∧ Cur w' b s o (if er = 0 then x else er) ∧ Only b w w' := by
  have hc := hcu.c2
  have hf := hcu.f 2
  go_enter Try.func71, Try.ntmps71
  go_wp2_with fail
  refine (err_at hcu).mono ?_
  rintro e w1 ⟨rfl, rfl⟩
  by_cases h0 : er = 0
  · subst h0
    go_wp2
    go_end0
    exact ⟨rfl, hcu.set2 x, (Only.refl b w1).setCell 2 _⟩
  · go_wp2
    go_end0
    exact ⟨rfl, hcu, Only.refl b w1⟩
set_option maxHeartbeats 400000 in
theorem skip_nil (x : Int) (w : World) : Calls Try.prog 93 #[.pointer none, .int .i64 x] w fun e w' => e = .returned (.tuple #[]) ∧ w' = w := by
  go_enter Try.func93, Try.ntmps93
  go_wp2_with fail
  refine (err_nil _).mono ?_
  rintro e w1 ⟨rfl, rfl⟩
  go_wp2
  go_end0
  exact ⟨rfl, rfl⟩
set_option maxHeartbeats 400000 in
theorem skip_err {w : World} {b : Nat} {s : ByteArray} {o er : Int} (h : Cur w b s o er) (h0 : er ≠ 0) (x : Int) : Calls Try.prog 93 #[.pointer (some ⟨b, 0, none⟩), .int .i64 x] w fun e w' => e = .returned (.tuple #[]) ∧ w' = w := by
  go_enter Try.func93, Try.ntmps93
  go_wp2_with fail
  refine (err_at h).mono ?_
  rintro e w1 ⟨rfl, rfl⟩
  go_wp2
  go_end0
  exact ⟨rfl, rfl⟩
set_option maxHeartbeats 400000 in
theorem skip_ok {w : World} {b : Nat} {s : ByteArray} {o : Int} (h : Cur w b s o 0) (x : Int) (h1 : 0 ≤ o) (h2 : o ≤ 8192) (h3 : 0 ≤ x) (h4 : x ≤ 2097152) : Calls Try.prog 93 #[.pointer (some ⟨b, 0, none⟩), .int .i64 x] w fun e w' => e = .returned (.tuple #[]) ∧ Cur w' b s (o + x) 0 ∧ Only b w w' := by
  have hc := h.c1
  have hf := h.f 1
  have hw : IntKind.i64.wrap (o + x) = o + x := by rw [IntKind.wrap_i64]; omega
  go_enter Try.func93, Try.ntmps93
  go_wp2_with fail
  refine (err_at h).mono ?_
  rintro e w1 ⟨rfl, rfl⟩
  go_wp2
  go_end0
  try rw [hw]
  exact ⟨rfl, h.set1 _, (Only.refl b w1).setCell 1 _⟩
set_option maxHeartbeats 400000 in
theorem at_any (s : ByteArray) (w : World) : Calls Try.prog 41 #[.string s] w fun e w' => e = .returned (.pointer (some ⟨w.heap.size, 0, none⟩)) ∧ w' = w.alloc (.cells #[.string s, .int .i64 0, .int .i64 0] 101) := by
  go_enter Try.func41, Try.ntmps41
  go_wp2
  go_ret
  exact ⟨rfl, rfl⟩
end Go.Proofs.Ytjmjlijmeahmfaa
