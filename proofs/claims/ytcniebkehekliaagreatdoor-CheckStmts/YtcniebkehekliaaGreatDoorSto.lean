/- A block that is written over whole (put), and read whole. -/
import Derived.Test.YtcniebkehekliaaGreatDoorNex
import Derived.Deep.MidRow
namespace Go.Proofs.YtcniebkehekliaaGreatDoor
open Go.RowKit Go.Shelf
theorem there_of_row {w : World} {z : Nat} {cs : Array Value} {t : TypeId} (h : w.heap[z]? = some (.cells cs t (0, 0))) {n : Nat} (hn : n ≤ cs.size) : w.there z 0 n := by
  intro j hj
  have e : (0 : Nat) + j = j := Nat.zero_add j
  rw [e]
  refine ⟨?_, frozen_of_row w _ j _ _ h⟩
  rw [cell_of_row w z j cs t _ h]
  simp
  omega
def put (w : World) (z : Nat) (vs : Array Value) : World := w.setCells z 0 vs.toList
theorem store_row {w : World} {z : Nat} {cs : Array Value} {t : TypeId} (h : w.heap[z]? = some (.cells cs t (0, 0))) (T : TypeId) (vs : Array Value) (hn : vs.size = cs.size) (hi : (Tryz.prog.info? T).map (·.size) = some vs.size) (h1 : vs.all (·.oneCell') = true) :
    (Instr.storeAt T (.pointer (some ⟨z, 0, none⟩)) (.agg vs)).run Tryz.prog w = .ok () (put w z vs) :=
  run_storeAt_mid w z 0 T vs (there_of_row h (by omega)) hi h1
theorem load_row {w : World} {z : Nat} {cs : Array Value} {t : TypeId} (h : w.heap[z]? = some (.cells cs t (0, 0))) (T : TypeId) (d : TypeDesc) (hu : Tryz.prog.underlying T = some d) (hd : d.isRow = true) (hi : (Tryz.prog.info? T).map (·.size) = some cs.size) :
    (Instr.loadAt T (.pointer (some ⟨z, 0, none⟩))).run Tryz.prog w = .ok (.agg cs) w := by
  have := run_loadAt_mid (P := Tryz.prog) w z 0 T cs.toList d (fun j v hv => by rw [Nat.zero_add, cell_of_row w z j cs t _ h]; simpa using hv) hu hd (by simpa using hi)
  simpa using this
theorem take_set_at : ∀ (l : List Value) (o : Nat) (v : Value), o < l.length → (l.set o v).take (o + 1) = l.take o ++ [v]
  | [], _, _, h => by simp at h
  | _ :: _, 0, _, _ => by simp
  | x :: l, o + 1, v, h => by
    have := take_set_at l o v (by simpa using h)
    simp [this]
theorem heap_setCells_full (g : Nat) (t : TypeId) : ∀ (vs : List Value) (o : Nat) (W : World) (cs : Array Value), W.heap[g]? = some (.cells cs t (0, 0)) → o + vs.length = cs.size →
    (W.setCells g o vs).heap[g]? = some (.cells (cs.toList.take o ++ vs).toArray t (0, 0))
  | [], o, W, cs, h, hl => by
    simp only [World.setCells, List.append_nil]
    rw [h, List.take_of_length_le (by simp at hl; simp; omega)]
  | v :: r, o, W, cs, h, hl => by
    simp only [World.setCells]
    simp at hl
    rw [heap_setCells_full g t r (o + 1) _ (cs.setIfInBounds o v) (heap_setCell_same W g o cs t v h) (by simp; omega)]
    congr 3
    have : (cs.setIfInBounds o v).toList.take (o + 1) = cs.toList.take o ++ [v] := by
      rw [Array.toList_setIfInBounds, take_set_at cs.toList o v (by simp; omega)]
    rw [this]; simp
theorem put_row {W : World} {g : Nat} {t : TypeId} {cs : Array Value} (vs : Array Value) (h : W.heap[g]? = some (.cells cs t (0, 0))) (hl : vs.size = cs.size) :
    (put W g vs).heap[g]? = some (.cells vs t (0, 0)) := by
  unfold put
  rw [heap_setCells_full g t vs.toList 0 W cs h (by simp; omega)]
  simp
theorem below_setCells' {B g : Nat} {a : World} (hg : B ≤ g) : ∀ (vs : List Value) (o : Nat) (W : World), Below B a W → Below B a (W.setCells g o vs)
  | [], _, _, h => h
  | v :: r, o, _, h => below_setCells' hg r (o + 1) _ (h.setCell hg v)
theorem heap_setCells_else (g i : Nat) (hne : i ≠ g) : ∀ (vs : List Value) (o : Nat) (W : World), (W.setCells g o vs).heap[i]? = W.heap[i]?
  | [], _, _ => rfl
  | v :: r, o, W => by
    simp only [World.setCells]
    rw [heap_setCells_else g i hne r (o + 1) _, Below.heap_setCell _ _ _ i hne]
theorem size_setCells (g : Nat) : ∀ (vs : List Value) (o : Nat) (W : World), (W.setCells g o vs).heap.size = W.heap.size
  | [], _, _ => rfl
  | v :: r, o, W => by
    simp only [World.setCells]
    rw [size_setCells g r (o + 1) _]
    simp [World.setCell]
theorem put_other {w : World} {z j : Nat} (hj : j ≠ z) (vs : Array Value) : (put w z vs).heap[j]? = w.heap[j]? := heap_setCells_else z j hj _ _ _
theorem put_size (w : World) (z : Nat) (vs : Array Value) : (put w z vs).heap.size = w.heap.size := size_setCells z _ _ _
theorem put_below {B : Nat} {a w : World} (hb : Below B a w) (z : Nat) (hz : B ≤ z) (vs : Array Value) : Below B a (put w z vs) := below_setCells' hz _ _ _ hb
theorem Onl.put {b : Nat} {a w : World} (h : Onl b a w) (z : Nat) (hz : a.heap.size ≤ z) (vs : Array Value) : Onl b a (put w z vs) := by
  have hb0 := put_below (Below.refl 0 w) z (Nat.zero_le _) vs
  refine ⟨hb0.os.trans h.os, hb0.tape.trans h.tape, hb0.output.trans h.output, ?_, fun j hj hb => ?_⟩
  · rw [put_size]; exact h.size
  · rw [put_other (by omega)]; exact h.block j hj hb
theorem Since.put {S : Nat → Prop} {z : Nat} (hz : ¬ S z) (w : World) (vs : Array Value) : Since S w (put w z vs) :=
  ⟨Nat.le_of_eq (put_size _ _ _).symm, fun k hk _ => put_other (fun (e : k = z) => hz (e ▸ hk)) _⟩
theorem Ps.put {w : World} {b : Nat} {p : Option Addr} {c : Nat} {ws : List Wd} {s : PS} (H : Ps w b p c ws s) {z : Nat} (hbz : b < z) (hgz : ∀ g, p = some ⟨g, 0, none⟩ → g < z) (vs : Array Value) : Ps (put w z vs) b p c ws s :=
  H.kept (z := z) hbz hgz (fun _ hj => put_other hj vs) (Nat.le_of_eq (put_size _ _ _).symm)
/- At the list of a region's operations. -/
theorem wpList_put {ops : Array Oper} {rest : List Oper} {op : Oper} {a : Act} {w : World} {Q : Exit → Act → World → Prop} (hgd : op.guard = none) (ty : TypeId) (x y : Operand) (ho : op.op = .store ty x y) (hds : op.dst = none)
    {z : Nat} {cs vs : Array Value} {t : TypeId} (hx : a.eval x = .pointer (some ⟨z, 0, none⟩)) (hy : a.eval y = .agg vs) (h0 : w.heap[z]? = some (.cells cs t (0, 0))) (hn : vs.size = cs.size) (hi : (Tryz.prog.info? ty).map (·.size) = some vs.size) (h1 : vs.all (·.oneCell') = true)
    (h : wpList Tryz.prog ops Q rest a (put w z vs)) : wpList Tryz.prog ops Q (op :: rest) a w := by
  refine wpList_store_mid hgd ty x y ho z 0 vs hx hy (there_of_row h0 (by omega)) hi h1 ?_
  rw [hds]
  exact h
theorem wpList_get {ops : Array Oper} {rest : List Oper} {op : Oper} {a : Act} {w : World} {Q : Exit → Act → World → Prop} (hgd : op.guard = none) (ty : TypeId) (x : Operand) (ho : op.op = .load ty x)
    {z : Nat} {cs : Array Value} {t : TypeId} (hx : a.eval x = .pointer (some ⟨z, 0, none⟩)) (h0 : w.heap[z]? = some (.cells cs t (0, 0))) {d : TypeDesc} (hu : Tryz.prog.underlying ty = some d) (hd : d.isRow = true) (hi : (Tryz.prog.info? ty).map (·.size) = some cs.size)
    (h : wpList Tryz.prog ops Q rest (a.put op.dst (.agg cs)) w) : wpList Tryz.prog ops Q (op :: rest) a w := by
  refine wpList_load_mid hgd ty x ho z 0 hx cs.toList d (fun j v hv => by rw [Nat.zero_add, cell_of_row w z j cs t _ h0]; simpa using hv) hu hd (by simpa using hi) ?_
  simpa using h
theorem info25 : (Tryz.prog.info? 25).map (·.size) = some 6 := by kernel_rfl
theorem info28 : (Tryz.prog.info? 28).map (·.size) = some 10 := by kernel_rfl
theorem info98 : (Tryz.prog.info? 124).map (·.size) = some 11 := by kernel_rfl
theorem info30 : (Tryz.prog.info? 30).map (·.size) = some 31 := by kernel_rfl
end Go.Proofs.YtcniebkehekliaaGreatDoor
