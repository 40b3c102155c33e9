/- Rows of three cells that are stored cell by cell; results that lie in a cell; a text's part as a list. -/
import Derived.Test.YthgagldpjledgaaGreatDoorQu
import Derived.Test.YthgagldpjledgaaGreatDoorKy
import Derived.Test.YthgagldpjledgaaGreatDoorNm
import Derived.Laws.Rows
namespace Go.Proofs.YthgagldpjledgaaGreatDoor
open Go.RowKit Go.Shelf
theorem row_setCell {W : World} {g k : Nat} {cs : Array Value} {t : TypeId} {fr : Nat × Nat} (h : W.heap[g]? = some (.cells cs t fr)) (v : Value) : (W.setCell ⟨g, k, none⟩ v).heap[g]? = some (.cells (cs.setIfInBounds k v) t fr) := by
  have hl := lt_of_row h
  rw [Array.getElem?_eq_getElem hl] at h
  injection h with h
  unfold World.setCell
  rw [Array.getElem?_modify]
  simp [hl, h]
def set3 (w : World) (z : Nat) (c0 c1 c2 : Value) : World := (((w.setCell ⟨z, 0, none⟩ c0).setCell ⟨z, 1, none⟩ c1).setCell ⟨z, 2, none⟩ c2)
theorem set3_block (w : World) (z : Nat) (c0 c1 c2 : Value) (k : Nat) (h : k ≠ z) : (set3 w z c0 c1 c2).heap[k]? = w.heap[k]? := by
  unfold set3
  rw [Below.heap_setCell _ _ _ k h, Below.heap_setCell _ _ _ k h, Below.heap_setCell _ _ _ k h]
theorem set3_size (w : World) (z : Nat) (c0 c1 c2 : Value) : (set3 w z c0 c1 c2).heap.size = w.heap.size := by unfold set3; simp
theorem set3_below {B : Nat} {a w : World} (hb : Below B a w) (z : Nat) (hz : B ≤ z) (c0 c1 c2 : Value) : Below B a (set3 w z c0 c1 c2) := (((hb.setCell (p := ⟨z, 0, none⟩) hz c0).setCell (p := ⟨z, 1, none⟩) hz c1).setCell (p := ⟨z, 2, none⟩) hz c2)
theorem set3_row {w : World} {z : Nat} {t : TypeId} {fr : Nat × Nat} {a0 a1 a2 : Value} (h : w.heap[z]? = some (.cells #[a0, a1, a2] t fr)) (c0 c1 c2 : Value) : (set3 w z c0 c1 c2).heap[z]? = some (.cells #[c0, c1, c2] t fr) := by
  have h0 := row_setCell (k := 0) h c0
  simp only [List.setIfInBounds_toArray, List.set_cons_zero] at h0
  have h1 := row_setCell (k := 1) h0 c1
  simp only [List.setIfInBounds_toArray, List.set_cons_zero, List.set_cons_succ] at h1
  have h2 := row_setCell (k := 2) h1 c2
  simp only [List.setIfInBounds_toArray, List.set_cons_zero, List.set_cons_succ] at h2
  exact h2
theorem results_row_tmp {P : Program} {fn : Func} {p q : Tmp} {ty : TypeId} (h : fn.results = #[.cell p ty, .tmp q]) (tmps : Array Value) (w : World) (g : Nat) (t : TypeId) (cs : Array Value) (fr : Nat × Nat) (d : TypeDesc)
    (hp : tmps.getD p undef = .pointer (some ⟨g, 0, none⟩)) (hg : w.heap[g]? = some (.cells cs t fr))
    (hu : P.underlying ty = some d) (hd : (match d with | .struct _ | .array _ _ => true | _ => false) = true) (hi : (P.info? ty).map (·.size) = some cs.size) :
    (results fn tmps).run P w = .ok (.tuple #[.agg cs, tmps.getD q undef]) w := by
  have hp' : tmps[p]?.getD undef = .pointer (some ⟨g, 0, none⟩) := by simpa using hp
  simp [results, h, hp', asAddr, run_loadVar_row w g t ty cs fr d hg hu hd hi]
theorem ext_list (s : ByteArray) (i j : Nat) : (s.extract i j).data.toList = (s.data.toList.drop i).take (j - i) := by
  rw [ByteArray.data_extract, Array.toList_extract]
theorem ext_drop (s : ByteArray) (i : Nat) : (s.extract i s.size).data.toList = s.data.toList.drop i := by
  rw [ext_list, List.take_of_length_le]
  have := Lib.size_eq s
  simp
theorem ext_take (s : ByteArray) (j : Nat) : (s.extract 0 j).data.toList = s.data.toList.take j := by
  rw [ext_list]
  simp
theorem ba_eq {s : ByteArray} {l : List UInt8} (h : s.data.toList = l) : s = ⟨l.toArray⟩ := by
  subst h
  cases s
  simp
abbrev Fo := Option (Nat × List UInt8 × Nat)
def wK (x : Fo) : Nat := match x with
  | none => 0
  | some y => y.1
def wS (x : Fo) : ByteArray := match x with
  | none => ⟨#[]⟩
  | some y => ⟨y.2.1.toArray⟩
def wN (x : Fo) : Nat := match x with
  | none => 0
  | some y => y.2.2
def wV (x : Fo) : Value := .tuple #[.agg #[.int .i64 (wK x : Int), .string (wS x), .int .i64 0], .int .i64 (wN x : Int)]
/- A row of three cells at b, of an empty word. -/
def Z3 (w : World) (b T : Nat) : Prop := w.heap[b]? = some (.cells #[.int .i64 0, .string ⟨#[]⟩, .int .i64 0] T (0, 0))
theorem Z3.new (w : World) (T : Nat) : Z3 (w.alloc (.cells #[.int .i64 0, .string ⟨#[]⟩, .int .i64 0] T)) w.heap.size T := heap_alloc_new w _
theorem Z3.later {w w' : World} {b T : Nat} (h : Z3 w b T) (hb : Below w.heap.size w w') : Z3 w' b T := (hb.block b (lt_of_row h)).trans h
end Go.Proofs.YthgagldpjledgaaGreatDoor
