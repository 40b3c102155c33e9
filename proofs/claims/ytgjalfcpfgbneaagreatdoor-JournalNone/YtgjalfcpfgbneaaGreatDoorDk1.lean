/- A disk's block (Dk); sectors, Dead, struck with an empty plan, length and open of a disk without files. -/
import Derived.Test.YtgjalfcpfgbneaaGreatDoorNil
import Derived.Deep.QuietTactic
import Derived.BigQuiet
import Derived.BigGuardPart
import Derived.Deep.RegionHeld3
import Derived.Maps.Own
import Derived.Maps.OwnSet
namespace Go.Proofs.YtgjalfcpfgbneaaGreatDoor
open Go.RowKit
theorem lt_of_row {W : World} {g : Nat} {o : Obj} (h1 : W.heap[g]? = some o) : g < W.heap.size := by
  rcases Nat.lt_or_ge g W.heap.size with h | h
  · exact h
  · rw [Array.getElem?_eq_none h] at h1; cases h1
theorem row_setCell {W : World} {g k : Nat} {cs : Array Value} {t : TypeId} {fr : Nat × Nat} (h : W.heap[g]? = some (.cells cs t fr)) (x : Value) :
    (W.setCell ⟨g, k, none⟩ x).heap[g]? = some (.cells (cs.setIfInBounds k x) t fr) := by
  have hl := lt_of_row h
  rw [Array.getElem?_eq_getElem hl] at h
  injection h with h
  unfold World.setCell
  rw [Array.getElem?_modify]
  simp [hl, h]
/- What may change: blocks with S alone; new ones come. -/
structure Chg (S : Nat → Prop) (w w' : World) : Prop where
  os : w'.os = w.os
  tape : w'.tape = w.tape
  output : w'.output = w.output
  size : w.heap.size ≤ w'.heap.size
  block : ∀ k, k < w.heap.size → ¬ S k → w'.heap[k]? = w.heap[k]?
theorem Chg.trans {S S' : Nat → Prop} {w w1 w2 : World} (h : Chg S w w1) (h2 : Chg S' w1 w2) (hS : ∀ k, S' k → S k ∨ w.heap.size ≤ k) : Chg S w w2 :=
  ⟨h2.os.trans h.os, h2.tape.trans h.tape, h2.output.trans h.output, Nat.le_trans h.size h2.size, fun k hk hn => by
    rw [h2.block k (Nat.lt_of_lt_of_le hk h.size) (fun hs => by
      rcases hS k hs with e | e
      · exact hn e
      · omega), h.block k hk hn]⟩
theorem Chg.refl (S : Nat → Prop) (w : World) : Chg S w w := ⟨rfl, rfl, rfl, Nat.le_refl _, fun _ _ _ => rfl⟩
theorem Chg.below {S : Nat → Prop} {w w' : World} (h : Chg S w w') {B : Nat} (hB : B ≤ w.heap.size) (hS : ∀ j, S j → B ≤ j) : Below B w w' :=
  ⟨h.os, h.tape, h.output, h.size, fun k hk => h.block k (by omega) (fun hs => by have := hS k hs; omega)⟩
def Dk (w : World) (d : Nat) (mp : Value) (sec used ch : Int) (pl : Value) (dead : Bool) : Prop :=
  w.heap[d]? = some (.cells #[mp, .int .i64 sec, .int .i64 used, .int .i64 ch, pl, .bool dead] 69 (0, 0))
theorem Dk.cells {w : World} {d : Nat} {mp : Value} {sec used ch : Int} {pl : Value} {dead : Bool} (h : Dk w d mp sec used ch pl dead) :
    w.cell? ⟨d, 0, none⟩ = some mp ∧ w.cell? ⟨d, 1, none⟩ = some (.int .i64 sec) ∧ w.cell? ⟨d, 2, none⟩ = some (.int .i64 used) ∧ w.cell? ⟨d, 3, none⟩ = some (.int .i64 ch) ∧ w.cell? ⟨d, 4, none⟩ = some pl ∧ w.cell? ⟨d, 5, none⟩ = some (.bool dead) :=
  ⟨cell_of_row _ _ 0 _ _ _ h, cell_of_row _ _ 1 _ _ _ h, cell_of_row _ _ 2 _ _ _ h, cell_of_row _ _ 3 _ _ _ h, cell_of_row _ _ 4 _ _ _ h, cell_of_row _ _ 5 _ _ _ h⟩
theorem Dk.fro {w : World} {d : Nat} {mp : Value} {sec used ch : Int} {pl : Value} {dead : Bool} (h : Dk w d mp sec used ch pl dead) (k : Nat) : w.frozen? ⟨d, k, none⟩ = false := frozen_of_row _ _ k _ _ h
theorem Dk.drewN {w : World} {d : Nat} {mp : Value} {sec used ch : Int} {pl : Value} {dead : Bool} (h : Dk w d mp sec used ch pl dead) (n : Nat) : Dk (w.drewN n) d mp sec used ch pl dead := h
def secN (n : Int) : Int := (n + 63) / 64
set_option maxHeartbeats 1000000 in
theorem sectors_any (n : Int) (h0 : 0 ≤ n) (h1 : n ≤ 1000000000) (w : World) : Calls Tryz.prog 38 #[.int .i64 n] w fun e w' => e = .returned (.int .i64 (secN n)) ∧ w' = w := by
  obtain ⟨r, hr⟩ : ∃ r, secN n = r := ⟨_, rfl⟩
  rw [hr]
  by_cases h : 0 < n % 64
  · have e : n / 64 + 1 = r := by rw [← hr]; unfold secN; omega
    have HE : Hid (n / 64 + 1 = r) := e
    clear e hr
    go_enter Tryz.func38, Tryz.ntmps38
    go_wp2
    go_ret
    exact ⟨congrArg (fun z => Ending.returned (Value.int .i64 z)) HE.out, rfl⟩
  · have e : n / 64 = r := by rw [← hr]; unfold secN; omega
    have HE : Hid (n / 64 = r) := e
    clear e hr
    go_enter Tryz.func38, Tryz.ntmps38
    go_wp2
    go_ret
    exact ⟨congrArg (fun z => Ending.returned (Value.int .i64 z)) HE.out, rfl⟩
set_option maxHeartbeats 1000000 in
theorem dead_any {d : Nat} {mp : Value} {sec used ch : Int} {pl : Value} {dead : Bool} (w : World) (h : Dk w d mp sec used ch pl dead) :
    Calls Tryz.prog 20 #[.pointer (some ⟨d, 0, none⟩)] w fun e w' => e = .returned (.bool dead) ∧ w' = w := by
  obtain ⟨c0, c1, c2, c3, c4, c5⟩ := h.cells
  go_enter Tryz.func20, Tryz.ntmps20
  go_wp2
  go_ret
  exact ⟨rfl, rfl⟩
set_option maxHeartbeats 2000000 in
theorem struck_none {d : Nat} {mp : Value} {sec used ch : Int} {p : Option Addr} {c : Nat} {dead : Bool} (hch : 0 ≤ ch ∧ ch < 1000000000) (w : World) (h : Dk w d mp sec used ch (.slice p 0 c) dead) :
    Calls Tryz.prog 54 #[.pointer (some ⟨d, 0, none⟩)] w fun e w' => e = .returned (.bool false) ∧ ∃ n, w' = (w.drewN n).setCell ⟨d, 3, none⟩ (.int .i64 (ch + 1)) := by
  obtain ⟨c0, c1, c2, c3, c4, c5⟩ := h.cells
  have f3 := h.fro 3
  go_enter Tryz.func54, Tryz.ntmps54
  go_wp2_with fail
  go_loopw [4] (fun _ wr => ∃ n, wr = w.drewN n) (fun _ _ => 0)
  case atStart => exact ⟨0, rfl⟩
  case round =>
    obtain ⟨n, rfl⟩ := hrel
    have hn := Dk.drewN h n
    obtain ⟨c0, c1, c2, c3, c4, c5⟩ := hn.cells
    have f3 := hn.fro 3
    go_wp2_with fail
    go_quiet (fail)
    go_wp2_with fail
    go_quiet (fail)
    go_wp2
    go_ret
    exact ⟨rfl, _, rfl⟩
theorem keyed3 : Maps.Keyed Tryz.prog 3 := Maps.int_keyed Tryz.underlying3
def I64 (n : Int) : Prop := -9223372036854775808 ≤ n ∧ n ≤ 9223372036854775807
theorem wf64 {n : Int} (h : I64 n) : (Lit.int .i64 n).wf = true := by
  unfold I64 at h
  have a1 : IntKind.i64.min = -9223372036854775808 := by decide
  have a2 : IntKind.i64.max = 9223372036854775807 := by decide
  simp only [Lit.wf]
  simp
  omega
theorem key3 {n : Int} (h : I64 n) : keyOf Tryz.prog 3 (.int .i64 n) = some (.int .i64 n) := Maps.keyOf_int_mk Tryz.underlying3 (wf64 h)
theorem zero76 (w : World) : (zeroValue 92).run Tryz.prog w = .ok (.pointer none) w := by kernel_rfl
theorem look_none {n : Int} (h : I64 n) (w : World) : (Instr.lookup 67 (.map none) (.int .i64 n) false).run Tryz.prog w = .ok (.pointer none) w :=
  Maps.look_nil false keyed3 Tryz.underlying67 (zero76 w) (key3 h)
set_option maxRecDepth 20000 in
set_option maxHeartbeats 1000000 in
theorem length_none {d : Nat} {sec used ch : Int} {pl : Value} {dead : Bool} (n : Int) (hI : I64 n) (w : World) (h : Dk w d (.map none) sec used ch pl dead) :
    Calls Tryz.prog 71 #[.pointer (some ⟨d, 0, none⟩), .int .i64 n] w fun e w' => e = .returned (.int .i64 0) ∧ w' = w := by
  obtain ⟨c0, c1, c2, c3, c4, c5⟩ := h.cells
  have hl := look_none hI w
  go_enter Tryz.func71, Tryz.ntmps71
  go_wp2
  go_ret
  exact ⟨rfl, rfl⟩
/- How a pointer among a map's elements reads: as its block's number. -/
def ptrR (v : Value) : Option (DataW Unit × List MemPlace) :=
  match v with
  | .pointer none => some (.nil, [])
  | .pointer (some ⟨b, 0, none⟩) => some (.lit (.int .u64 (b : Int)), [])
  | _ => none
theorem ptrR_some (b : Nat) : ptrR (.pointer (some ⟨b, 0, none⟩)) = some (.lit (.int .u64 (b : Int)), []) := rfl
theorem ptrR_inv {v : Value} {b : Nat} {ps : List MemPlace} (h : ptrR v = some (.lit (.int .u64 (b : Int)), ps)) : v = .pointer (some ⟨b, 0, none⟩) := by
  unfold ptrR at h
  split at h
  · simp at h
  · rename_i c
    simp at h
    rw [Int.ofNat_inj.1 h.1]
  · cases h
theorem ptrR_nil {v : Value} {ps : List MemPlace} (h : ptrR v = some (.nil, ps)) : v = .pointer none := by
  unfold ptrR at h
  split at h
  · rfl
  · simp at h
  · cases h
def Mp (w : World) (m k : Nat) (D : DataW Unit) : Prop := w.ownsMap Tryz.prog 3 ptrR m k D
theorem Mp.look_nil {w : World} {m k : Nat} {D : DataW Unit} (h : Mp w m k D) {n : Int} (hI : I64 n) (hD : D.atKey (.int .i64 n) .nil = .nil) : (Instr.lookup 67 (.map (some m)) (.int .i64 n) false).run Tryz.prog w = .ok (.pointer none) w := by
  obtain ⟨v, ps, h1, h2⟩ := World.ownsMap.lookup h keyed3 Tryz.underlying67 (zero76 w) (R := ptrR) (z := .pointer none) (zd := .nil) (zp := []) rfl (key3 hI)
  rw [hD] at h2
  rw [h1, ptrR_nil h2]
theorem Mp.look {w : World} {m k : Nat} {D : DataW Unit} (h : Mp w m k D) {n : Int} (hI : I64 n) {b : Nat} (hD : D.atKey (.int .i64 n) .nil = .lit (.int .u64 (b : Int))) : (Instr.lookup 67 (.map (some m)) (.int .i64 n) false).run Tryz.prog w = .ok (.pointer (some ⟨b, 0, none⟩)) w := by
  obtain ⟨v, ps, h1, h2⟩ := World.ownsMap.lookup h keyed3 Tryz.underlying67 (zero76 w) (R := ptrR) (z := .pointer none) (zd := .nil) (zp := []) rfl (key3 hI)
  rw [hD] at h2
  rw [h1, ptrR_inv h2]
end Go.Proofs.YtgjalfcpfgbneaaGreatDoor
