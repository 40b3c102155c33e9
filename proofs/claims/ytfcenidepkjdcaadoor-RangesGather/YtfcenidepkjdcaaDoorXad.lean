/- A block that is written over whole (put), and read whole. Whether a text may be a name (Name, letter, digit). Whether a struct's names may be, rise, and are as many as its parts (named). Whether a value is formed, its kind and what it has (formed). -/
import Derived.Test.YtfcenidepkjdcaaDoorBAin
import Derived.Test.YtfcenidepkjdcaaDoorVCln
import Derived.Deep.MidRow
import Derived.Test.YtfcenidepkjdcaaDoorXaa
import Derived.Test.YtfcenidepkjdcaaDoorXac
import Derived.BigGuardPart
namespace Go.Proofs.YtfcenidepkjdcaaDoor
open Go.RowKit Go.Shelf
theorem lt_of_row {W : World} {g : Nat} {o : Obj} (h1 : W.heap[g]? = some o) : g < W.heap.size := (Array.getElem?_eq_some_iff.1 h1).1
theorem cell_later {w w' : World} {b o : Nat} (hb : Below w.heap.size w w') (h : b < w.heap.size) : w'.cell? ⟨b, o, none⟩ = w.cell? ⟨b, o, none⟩ := World.cell?_of_block (a := ⟨b, o, none⟩) (hb.block b h)
theorem there_of_row {w : World} {z : Nat} {cs : Array Value} {t : TypeId} (h : w.heap[z]? = some (.cells cs t (0, 0))) {n : Nat} (hn : n ≤ cs.size) : w.there z 0 n := by
  intro j hj
  have e : (0 : Nat) + j = j := Nat.zero_add j
  rw [e]
  refine ⟨?_, frozen_of_row w _ j _ _ h⟩
  rw [cell_of_row w z j cs t _ h]
  simp
  omega
def put (w : World) (z : Nat) (vs : Array Value) : World := w.setCells z 0 vs.toList
theorem store_row {w : World} {z : Nat} {cs : Array Value} {t : TypeId} (h : w.heap[z]? = some (.cells cs t (0, 0))) (T : TypeId) (vs : Array Value) (hn : vs.size = cs.size) (hi : (Tryd.prog.info? T).map (·.size) = some vs.size) (h1 : vs.all (·.oneCell') = true) :
    (Instr.storeAt T (.pointer (some ⟨z, 0, none⟩)) (.agg vs)).run Tryd.prog w = .ok () (put w z vs) :=
  run_storeAt_mid w z 0 T vs (there_of_row h (by omega)) hi h1
theorem load_row {w : World} {z : Nat} {cs : Array Value} {t : TypeId} (h : w.heap[z]? = some (.cells cs t (0, 0))) (T : TypeId) (d : TypeDesc) (hu : Tryd.prog.underlying T = some d) (hd : d.isRow = true) (hi : (Tryd.prog.info? T).map (·.size) = some cs.size) :
    (Instr.loadAt T (.pointer (some ⟨z, 0, none⟩))).run Tryd.prog w = .ok (.agg cs) w := by
  have := run_loadAt_mid (P := Tryd.prog) w z 0 T cs.toList d (fun j v hv => by rw [Nat.zero_add, cell_of_row w z j cs t _ h]; simpa using hv) hu hd (by simpa using hi)
  simpa using this
theorem take_set_at : ∀ (l : List Value) (o : Nat) (v : Value), o < l.length → (l.set o v).take (o + 1) = l.take o ++ [v]
  | [], _, _, h => by simp at h
  | _ :: _, 0, _, _ => by simp
  | x :: l, o + 1, v, h => by
    have := take_set_at l o v (by simpa using h)
    simp [this]
theorem heap_setCells_full (g : Nat) (t : TypeId) : ∀ (vs : List Value) (o : Nat) (W : World) (cs : Array Value), W.heap[g]? = some (.cells cs t (0, 0)) → o + vs.length = cs.size →
    (W.setCells g o vs).heap[g]? = some (.cells (cs.toList.take o ++ vs).toArray t (0, 0))
  | [], o, W, cs, h, hl => by
    simp only [World.setCells, List.append_nil]
    rw [h, List.take_of_length_le (by simp at hl; simp; omega)]
  | v :: r, o, W, cs, h, hl => by
    simp only [World.setCells]
    simp at hl
    rw [heap_setCells_full g t r (o + 1) _ (cs.setIfInBounds o v) (heap_setCell_same W g o cs t v h) (by simp; omega)]
    congr 3
    have : (cs.setIfInBounds o v).toList.take (o + 1) = cs.toList.take o ++ [v] := by
      rw [Array.toList_setIfInBounds, take_set_at cs.toList o v (by simp; omega)]
    rw [this]; simp
theorem put_row {W : World} {g : Nat} {t : TypeId} {cs : Array Value} (vs : Array Value) (h : W.heap[g]? = some (.cells cs t (0, 0))) (hl : vs.size = cs.size) :
    (put W g vs).heap[g]? = some (.cells vs t (0, 0)) := by
  unfold put
  rw [heap_setCells_full g t vs.toList 0 W cs h (by simp; omega)]
  simp
theorem below_setCells' {B g : Nat} {a : World} (hg : B ≤ g) : ∀ (vs : List Value) (o : Nat) (W : World), Below B a W → Below B a (W.setCells g o vs)
  | [], _, _, h => h
  | v :: r, o, _, h => below_setCells' hg r (o + 1) _ (h.setCell hg v)
theorem heap_setCells_else (g i : Nat) (hne : i ≠ g) : ∀ (vs : List Value) (o : Nat) (W : World), (W.setCells g o vs).heap[i]? = W.heap[i]?
  | [], _, _ => rfl
  | v :: r, o, W => by
    simp only [World.setCells]
    rw [heap_setCells_else g i hne r (o + 1) _, Below.heap_setCell _ _ _ i hne]
theorem size_setCells (g : Nat) : ∀ (vs : List Value) (o : Nat) (W : World), (W.setCells g o vs).heap.size = W.heap.size
  | [], _, _ => rfl
  | v :: r, o, W => by
    simp only [World.setCells]
    rw [size_setCells g r (o + 1) _]
    simp [World.setCell]
theorem put_other {w : World} {z j : Nat} (hj : j ≠ z) (vs : Array Value) : (put w z vs).heap[j]? = w.heap[j]? := heap_setCells_else z j hj _ _ _
theorem put_size (w : World) (z : Nat) (vs : Array Value) : (put w z vs).heap.size = w.heap.size := size_setCells z _ _ _
theorem put_below {B : Nat} {a w : World} (hb : Below B a w) (z : Nat) (hz : B ≤ z) (vs : Array Value) : Below B a (put w z vs) := below_setCells' hz _ _ _ hb
/- At the list of a region's operations. -/
theorem wpList_put {ops : Array Oper} {rest : List Oper} {op : Oper} {a : Act} {w : World} {Q : Exit → Act → World → Prop} (hgd : op.guard = none) (ty : TypeId) (x y : Operand) (ho : op.op = .store ty x y) (hds : op.dst = none)
    {z : Nat} {cs vs : Array Value} {t : TypeId} (hx : a.eval x = .pointer (some ⟨z, 0, none⟩)) (hy : a.eval y = .agg vs) (h0 : w.heap[z]? = some (.cells cs t (0, 0))) (hn : vs.size = cs.size) (hi : (Tryd.prog.info? ty).map (·.size) = some vs.size) (h1 : vs.all (·.oneCell') = true)
    (h : wpList Tryd.prog ops Q rest a (put w z vs)) : wpList Tryd.prog ops Q (op :: rest) a w := by
  refine wpList_store_mid hgd ty x y ho z 0 vs hx hy (there_of_row h0 (by omega)) hi h1 ?_
  rw [hds]
  exact h
theorem wpList_get {ops : Array Oper} {rest : List Oper} {op : Oper} {a : Act} {w : World} {Q : Exit → Act → World → Prop} (hgd : op.guard = none) (ty : TypeId) (x : Operand) (ho : op.op = .load ty x)
    {z : Nat} {cs : Array Value} {t : TypeId} (hx : a.eval x = .pointer (some ⟨z, 0, none⟩)) (h0 : w.heap[z]? = some (.cells cs t (0, 0))) {d : TypeDesc} (hu : Tryd.prog.underlying ty = some d) (hd : d.isRow = true) (hi : (Tryd.prog.info? ty).map (·.size) = some cs.size)
    (h : wpList Tryd.prog ops Q rest (a.put op.dst (.agg cs)) w) : wpList Tryd.prog ops Q (op :: rest) a w := by
  refine wpList_load_mid hgd ty x ho z 0 hx cs.toList d (fun j v hv => by rw [Nat.zero_add, cell_of_row w z j cs t _ h0]; simpa using hv) hu hd (by simpa using hi) ?_
  simpa using h
end Go.Proofs.YtfcenidepkjdcaaDoor
namespace Go.Proofs.YtfcenidepkjdcaaDoor.V
open Go.RowKit
def digitB (x : Int) : Bool := decide (48 ≤ x) && decide (x ≤ 57)
def letterB (x : Int) : Bool := decide (97 ≤ x) && decide (x ≤ 122) || decide (65 ≤ x) && decide (x ≤ 90)
set_option maxRecDepth 100000 in
set_option maxHeartbeats 400000 in
theorem digit_any (x : Int) (w : World) : Calls Tryd.prog 87 #[.int .u8 x] w fun e w' => e = .returned (.bool (digitB x)) ∧ w' = w := by
  obtain ⟨F, hF⟩ : ∃ F, digitB x = F := ⟨_, rfl⟩
  rw [hF]
  have HF : Hid (digitB x = F) := hF
  clear hF
  go_enter Tryd.func87, Tryd.ntmps87
  go_wp2
  all_goals
    go_ret
    refine ⟨?_, rfl⟩
    have := HF.out
    unfold digitB at this
    subst this
    simp_all
  all_goals (first | (intros; omega) | (constructor <;> intros <;> omega) | (rw [Bool.eq_iff_iff]; simp; try (intros; omega)))
set_option maxRecDepth 100000 in
set_option maxHeartbeats 400000 in
theorem letter_any (x : Int) (w : World) : Calls Tryd.prog 88 #[.int .u8 x] w fun e w' => e = .returned (.bool (letterB x)) ∧ w' = w := by
  obtain ⟨F, hF⟩ : ∃ F, letterB x = F := ⟨_, rfl⟩
  rw [hF]
  have HF : Hid (letterB x = F) := hF
  clear hF
  go_enter Tryd.func88, Tryd.ntmps88
  go_wp2
  all_goals
    go_ret
    refine ⟨?_, rfl⟩
    have := HF.out
    unfold letterB at this
    subst this
    simp_all
  all_goals (first | (intros; omega) | (constructor <;> intros <;> omega) | (rw [Bool.eq_iff_iff]; simp; try (intros; omega)))
def chr (s : ByteArray) (i : Nat) : Int := (byteAt s i : Int)
set_option maxRecDepth 100000 in
theorem chr_eq (s : ByteArray) (i : Nat) (h : i < s.size) : ((s[i].toNat : Nat) : Int) = chr s i := by
  unfold chr byteAt
  have hl : i < s.data.toList.length := by rw [← Lib.size_eq]; exact h
  rw [List.getD_eq_getElem?_getD, List.getElem?_eq_getElem hl]
  rfl
def okB (x : Int) : Bool := letterB x || digitB x || decide (x = 95)
def nameB (s : ByteArray) : Bool := decide (0 < s.size) && decide (s.size ≤ 16) && !digitB (chr s 0) && decide (∀ i, i < s.size → okB (chr s i) = true)
set_option maxRecDepth 100000 in
theorem empty_size (s : ByteArray) : s.toList.isEmpty = decide (s.size = 0) := by
  rw [Lib.toList_data]
  have := Lib.size_eq s
  cases h : s.data.toList with
  | nil => rw [h] at this; simp at this; simp [this]
  | cons a l => rw [h] at this; simp at this; simp [this]
set_option maxRecDepth 100000 in
theorem nameB_no {s : ByteArray} {i : Nat} (h : i < s.size) (h1 : letterB (chr s i) = false) (h2 : digitB (chr s i) = false) (h3 : (chr s i != 95) = true) : nameB s = false := by
  have : decide (∀ i, i < s.size → okB (chr s i) = true) = false := by
    rw [decide_eq_false_iff_not]
    intro hh
    have := hh i h
    unfold okB at this
    rw [h1, h2] at this
    simp_all
  unfold nameB
  rw [this, Bool.and_false]
set_option maxRecDepth 100000 in
theorem nameB_yes {s : ByteArray} (h0 : 0 < s.size) (h1 : s.size ≤ 16) (h2 : digitB (chr s 0) = false) (h3 : ∀ i, i < s.size → okB (chr s i) = true) : nameB s = true := by
  unfold nameB
  rw [h2, decide_eq_true h0, decide_eq_true h1, decide_eq_true h3]; rfl
set_option maxRecDepth 100000 in
theorem okB_step {s : ByteArray} {i : Nat} (h : ∀ j, j < i → okB (chr s j) = true) (h1 : okB (chr s i) = true) : ∀ j, j < i + 1 → okB (chr s j) = true := fun j hj => by
  rcases Nat.lt_or_ge j i with k | k
  · exact h j k
  · obtain rfl : j = i := by omega
    exact h1
set_option maxRecDepth 100000 in
set_option maxHeartbeats 1000000 in
theorem name_in (s : ByteArray) (h2 : 0 < s.size) (h1 : s.size ≤ 16) (w : World) : Calls Tryd.prog 82 #[.string s] w fun e w' => e = .returned (.bool (nameB s)) ∧ w' = w := by
  have h0 : s.toList.isEmpty = false := by rw [empty_size]; exact decide_eq_false (by omega)
  have h1' : (s.size : Int) ≤ 16 := by omega
  have h2' : 0 < (s.size : Int) := by omega
  obtain ⟨F, hF⟩ : ∃ F, nameB s = F := ⟨_, rfl⟩
  rw [hF]
  have HF : Hid (nameB s = F) := hF
  clear hF
  go_enter Tryd.func82, Tryd.ntmps82
  go_wp2_with fail
  refine (digit_any _ _).mono ?_
  rintro e w ⟨rfl, rfl⟩
  rw [chr_eq s 0 h2]
  cases hd : digitB (chr s 0) with
  | true =>
    go_wp2
    go_ret
    refine ⟨?_, rfl⟩
    have := HF.out
    unfold nameB at this
    rw [hd, Bool.not_true, Bool.and_false, Bool.false_and] at this
    rw [← this]
    rfl
  | false =>
    have HD : Hid (digitB (chr s 0) = false) := hd
    clear hd
    go_wp2_with fail
    go_loopw [18] (fun c18 wr => ∃ i : Nat, i ≤ s.size ∧ c18 = .int .i64 (i : Int) ∧ (∀ j, j < i → okB (chr s j) = true) ∧ wr = w) (fun c18 _ => s.size - (intOf c18).toNat)
    case atStart => exact ⟨0, by omega, rfl, fun j hj => by omega, rfl⟩
    case round =>
      obtain ⟨i, hi, rfl, hj, rfl⟩ := hrel
      have HJ : Hid (∀ j, j < i → okB (chr s j) = true) := hj
      clear hj
      go_wp2_with (first | (go_at_call 87; refine (digit_any _ _).mono ?_; rintro e w ⟨rfl, rfl⟩) | (go_at_call 88; refine (letter_any _ _).mono ?_; rintro e w ⟨rfl, rfl⟩))
      · have a1 : i < s.size := by assumption
        have a2 : letterB (chr s i) = false := by rw [← chr_eq s i a1]; assumption
        have a3 : digitB (chr s i) = false := by rw [← chr_eq s i a1]; assumption
        have a4 : (chr s i != 95) = true := by rw [← chr_eq s i a1]; assumption
        go_ret
        exact ⟨by rw [← HF.out, nameB_no a1 a2 a3 a4]; rfl, rfl⟩
      · have a1 : i < s.size := by assumption
        have a4 : (chr s i != 95) = false := by rw [← chr_eq s i a1]; assumption
        go_roundw
        case rel =>
          refine ⟨i + 1, by omega, by go_num, okB_step HJ.out ?_, by trivial⟩
          unfold okB
          rw [bne_eq_false_iff_eq] at a4
          rw [a4]; rfl
        case measure => simp [intOf]; omega
      · have a1 : i < s.size := by assumption
        have a3 : digitB (chr s i) = true := by rw [← chr_eq s i a1]; assumption
        go_roundw
        case rel =>
          refine ⟨i + 1, by omega, by go_num, okB_step HJ.out ?_, by trivial⟩
          unfold okB
          rw [a3]; simp
        case measure => simp [intOf]; omega
      · have a1 : i < s.size := by assumption
        have a2 : letterB (chr s i) = true := by rw [← chr_eq s i a1]; assumption
        go_roundw
        case rel =>
          refine ⟨i + 1, by omega, by go_num, okB_step HJ.out ?_, by trivial⟩
          unfold okB
          rw [a2]; simp
        case measure => simp [intOf]; omega
      · go_ret
        obtain rfl : i = s.size := by omega
        exact ⟨by rw [← HF.out, nameB_yes h2 h1 HD.out HJ.out]; rfl, rfl⟩
set_option maxRecDepth 100000 in
set_option maxHeartbeats 1000000 in
theorem name_any (s : ByteArray) (w : World) : Calls Tryd.prog 82 #[.string s] w fun e w' => e = .returned (.bool (nameB s)) ∧ w' = w := by
  by_cases h2 : 0 < s.size
  · by_cases h1 : s.size ≤ 16
    · exact name_in s h2 h1 w
    · have hN : nameB s = false := by unfold nameB; rw [decide_eq_false h1]; simp
      rw [hN]
      clear hN
      have h0 : s.toList.isEmpty = false := by rw [empty_size]; exact decide_eq_false (by omega)
      have h1' : ¬ (s.size : Int) ≤ 16 := by omega
      have h1'' : (16 : Int) < (s.size : Int) := by omega
      go_enter Tryd.func82, Tryd.ntmps82
      go_wp2
      go_ret
      exact ⟨rfl, rfl⟩
  · have hN : nameB s = false := by unfold nameB; rw [decide_eq_false h2]; simp
    rw [hN]
    clear hN
    have h0 : s.toList.isEmpty = true := by rw [empty_size]; exact decide_eq_true (by omega)
    go_enter Tryd.func82, Tryd.ntmps82
    go_wp2
    go_ret
    exact ⟨rfl, rfl⟩
end Go.Proofs.YtfcenidepkjdcaaDoor.V
namespace Go.Proofs.YtfcenidepkjdcaaDoor.V
open Go.RowKit
def okN (g : Nat → ByteArray) (i : Nat) : Bool := nameB (g i) && (decide (i = 0) || Op.bytesLess (g (i - 1)).toList (g i).toList)
def namedB (q m : Nat) (g : Nat → ByteArray) : Bool := decide (q = m ∧ ∀ i, i < q → okN g i = true)
set_option maxRecDepth 100000 in
theorem namedB_no {q m : Nat} {g : Nat → ByteArray} {i : Nat} (h : i < q) (hn : okN g i = false) : namedB q m g = false := decide_eq_false (fun hh => by have := hh.2 i h; rw [hn] at this; cases this)
set_option maxRecDepth 100000 in
theorem namedB_yes {q : Nat} {g : Nat → ByteArray} (h : ∀ i, i < q → okN g i = true) : namedB q q g = true := decide_eq_true ⟨rfl, h⟩
set_option maxRecDepth 100000 in
theorem okN_name {g : Nat → ByteArray} {i : Nat} (h : nameB (g i) = false) : okN g i = false := by unfold okN; rw [h]; rfl
set_option maxRecDepth 100000 in
theorem okN_less {g : Nat → ByteArray} {j : Nat} (h : (!Op.bytesLess (g j).toList (g (j + 1)).toList) = true) : okN g (j + 1) = false := by
  unfold okN
  rw [Nat.add_sub_cancel]
  simp at h
  simp [h]
set_option maxRecDepth 100000 in
theorem okN_rise {g : Nat → ByteArray} {j : Nat} (h0 : nameB (g (j + 1)) = true) (h : (!Op.bytesLess (g j).toList (g (j + 1)).toList) = false) : okN g (j + 1) = true := by
  unfold okN
  rw [Nat.add_sub_cancel, h0]
  simp at h
  simp [h]
set_option maxRecDepth 100000 in
theorem okN_zero {g : Nat → ByteArray} (h0 : nameB (g 0) = true) : okN g 0 = true := by
  unfold okN
  rw [h0]
  rfl
set_option maxRecDepth 100000 in
theorem okN_step {g : Nat → ByteArray} {i : Nat} (h : ∀ j, j < i → okN g j = true) (h1 : okN g i = true) : ∀ j, j < i + 1 → okN g j = true := fun j hj => by
  rcases Nat.lt_or_ge j i with k | k
  · exact h j k
  · obtain rfl : j = i := by omega
    exact h1
set_option maxRecDepth 100000 in
set_option maxHeartbeats 2000000 in
theorem named_some {B : Nat} {w : World} {k : Int} {b : Bool} {n : Int} {s : ByteArray} {m q : Nat} {g : Nat → ByteArray} {pa na : Option Addr} {pc nc : Nat} (hN : Names B w q g na nc) (hB : B ≤ w.heap.size) (hqm : q = m) (hq0 : 0 < q) :
    Calls Tryd.prog 74 #[.agg #[.int .i64 k, .bool b, .int .i64 n, .string s, .slice pa m pc, .slice na q nc]] w fun e w' => e = .returned (.bool (namedB q m g)) ∧ Below w.heap.size w w' := by
  subst hqm
  obtain ⟨h1, h2, h3, h4⟩ := hN
  obtain ⟨bb, o, rfl, hbB, hcell⟩ := h4 hq0
  have hmax : (q : Int) ≤ 9223372036854775807 := by unfold maxLen at h2; omega
  obtain ⟨F, hF⟩ : ∃ F, namedB q q g = F := ⟨_, rfl⟩
  rw [hF]
  have HF : Hid (namedB q q g = F) := hF
  clear hF
  go_enter Tryd.func74, Tryd.ntmps74
  go_wp2_with fail
  have hW1 := heap_alloc_new w (.cells #[.int .i64 k, .bool b, .int .i64 n, .string s, .slice pa q pc, .slice (some ⟨bb, o, none⟩) q nc] 29)
  have hW2 := (Below.refl w.heap.size w).alloc (Nat.le_refl _) (.cells #[.int .i64 k, .bool b, .int .i64 n, .string s, .slice pa q pc, .slice (some ⟨bb, o, none⟩) q nc] 29)
  obtain ⟨W, hW⟩ : ∃ W, w.alloc (.cells #[.int .i64 k, .bool b, .int .i64 n, .string s, .slice pa q pc, .slice (some ⟨bb, o, none⟩) q nc] 29) = W := ⟨_, rfl⟩
  rw [hW] at hW1 hW2 ⊢
  clear hW
  have hc5 := cell_of_row W _ 5 _ _ _ hW1
  replace hcell : ∀ i, i < q → W.cell? ⟨bb, o + i, none⟩ = some (.string (g i)) := fun i hi => cell_later (hcell i hi) (by show bb < _; omega) hW2
  go_loopw [15] (fun c15 wr => ∃ i : Nat, i ≤ q ∧ c15 = .int .i64 (i : Int) ∧ (∀ j, j < i → okN g j = true) ∧ wr = W) (fun c15 _ => q - (intOf c15).toNat)
  case atStart => exact ⟨0, by omega, rfl, fun j hj => by omega, rfl⟩
  case round =>
    obtain ⟨i, hi, rfl, hj, rfl⟩ := hrel
    have HJ : Hid (∀ j, j < i → okN g j = true) := hj
    clear hj
    by_cases hiq : i < q
    · have hc := hcell i hiq
      have hiq' : (i : Int) < (q : Int) := by omega
      by_cases hi0 : 0 < i
      · have hi0' : (0 : Int) < (i : Int) := by omega
        obtain ⟨j, rfl⟩ : ∃ j, i = j + 1 := ⟨i - 1, by omega⟩
        have hc2 := hcell j (by omega)
        go_wp2_with fail
        refine (name_any _ _).mono ?_
        rintro e W ⟨rfl, rfl⟩
        cases hn : nameB (g (j + 1)) with
        | true =>
          go_wp2
          · rename_i hl
            go_ret
            refine ⟨?_, hW2⟩
            rw [← HF.out, namedB_no hiq (okN_less hl)]
            rfl
          · rename_i hl
            go_roundw
            case rel => exact ⟨j + 1 + 1, by omega, by go_num, okN_step HJ.out (okN_rise hn hl), by trivial⟩
            case measure => simp [intOf]; omega
        | false =>
          go_wp2
          go_ret
          refine ⟨?_, hW2⟩
          rw [← HF.out, namedB_no hiq (okN_name hn)]
          rfl
      · obtain rfl : i = 0 := by omega
        clear hiq' hi0
        rw [Nat.add_zero] at hc
        go_wp2_with fail
        refine (name_any _ _).mono ?_
        rintro e W ⟨rfl, rfl⟩
        cases hn : nameB (g 0) with
        | true =>
          go_wp2
          go_roundw
          case rel => exact ⟨0 + 1, by omega, by go_num, okN_step HJ.out (okN_zero hn), by trivial⟩
          case measure => simp [intOf]; omega
        | false =>
          go_wp2
          go_ret
          refine ⟨?_, hW2⟩
          rw [← HF.out, namedB_no hiq (okN_name hn)]
          rfl
    · obtain rfl : i = q := by omega
      go_wp2
      go_ret
      refine ⟨?_, hW2⟩
      rw [← HF.out, namedB_yes HJ.out]
      rfl
set_option maxRecDepth 100000 in
set_option maxHeartbeats 1000000 in
theorem named_any {B : Nat} {w : World} {t : Tr} {x : Ad} (hN : Names B w t.q t.g x.na x.nc) (hB : B ≤ w.heap.size) :
    Calls Tryd.prog 74 #[t.val x] w fun e w' => e = .returned (.bool (namedB t.q t.m t.g)) ∧ Below w.heap.size w w' := by
  obtain ⟨pa, pc, na, nc⟩ := x
  replace hN : Names B w t.q t.g na nc := hN
  show Calls Tryd.prog 74 #[.agg #[.int .i64 t.k, .bool t.b, .int .i64 t.n, .string t.s, .slice pa t.m pc, .slice na t.q nc]] w fun e w' => e = .returned (.bool (namedB t.q t.m t.g)) ∧ Below w.heap.size w w'
  generalize t.k = k
  generalize t.b = b
  generalize t.n = n
  generalize t.s = s
  generalize t.m = m
  generalize t.q = q at hN ⊢
  generalize t.g = g at hN ⊢
  by_cases hqm : q = m
  · by_cases h0 : 0 < q
    · exact named_some hN hB hqm h0
    · obtain rfl : q = 0 := by omega
      subst hqm
      rw [namedB_yes (fun i hi => by omega)]
      go_enter Tryd.func74, Tryd.ntmps74
      go_wp2_with fail
      go_loopw [15] (fun c15 wr => c15 = .int .i64 0 ∧ Below w.heap.size w wr) (fun _ _ => 0)
      case atStart => exact ⟨rfl, (Below.refl _ _).alloc (Nat.le_refl _) _⟩
      case round =>
        obtain ⟨rfl, hb⟩ := hrel
        go_wp2
        go_ret
        exact ⟨rfl, hb⟩
  · have hF : namedB q m g = false := decide_eq_false (fun h => hqm h.1)
    rw [hF]
    have hqm' : ¬ (q : Int) = (m : Int) := by omega
    have hqm2 : ((q : Int) != (m : Int)) = true := by simp; omega
    go_enter Tryd.func74, Tryd.ntmps74
    go_wp2
    go_ret
    exact ⟨rfl, (Below.refl _ _).alloc (Nat.le_refl _) _⟩
end Go.Proofs.YtfcenidepkjdcaaDoor.V
namespace Go.Proofs.YtfcenidepkjdcaaDoor.V
open Go.RowKit
def formedB (k : Int) (b : Bool) (n : Int) (s : ByteArray) (m q : Nat) : Bool :=
  decide (0 ≤ k) && decide (k ≤ 6) && (decide (k = 1) || !b) && (decide (k = 2) || decide (n = 0)) && (decide (k = 3) || decide (k = 4) || s.toList.isEmpty) && (decide (k = 5) || decide (k = 6) || decide ((m : Int) = 0)) && (decide (k = 6) || decide ((q : Int) = 0))
def Tr.formed (t : Tr) : Bool := formedB t.k t.b t.n t.s t.m t.q
set_option maxRecDepth 100000 in
set_option maxHeartbeats 4000000 in
theorem formed_any (t : Tr) (x : Ad) (w : World) :
  Calls Tryd.prog 73 #[t.val x] w fun e w' => e = .returned (.bool t.formed) ∧ Below w.heap.size w w' := by
  obtain ⟨pa, pc, na, nc⟩ := x
  show Calls Tryd.prog 73 #[.agg #[.int .i64 t.k, .bool t.b, .int .i64 t.n, .string t.s, .slice pa t.m pc, .slice na t.q nc]] w fun e w' => e = .returned (.bool (formedB t.k t.b t.n t.s t.m t.q)) ∧ Below w.heap.size w w'
  generalize t.k = k
  generalize t.b = b
  generalize t.n = n
  generalize t.s = s
  generalize t.m = m
  generalize t.q = q
  obtain ⟨F, hF⟩ : ∃ F, formedB k b n s m q = F := ⟨_, rfl⟩
  rw [hF]
  have HF : Hid (formedB k b n s m q = F) := hF
  clear hF
  go_enter Tryd.func73, Tryd.ntmps73
  go_step
  simp only [List.append_eq, List.cons_append, List.nil_append]
  go_wp2
  all_goals
    go_ret
    refine ⟨?_, (Below.refl _ _).alloc (Nat.le_refl _) _⟩
    have := HF.out
    unfold formedB at this
    subst this
    simp_all
  all_goals (rw [Bool.eq_iff_iff]; simp; try (intros; omega))
end Go.Proofs.YtfcenidepkjdcaaDoor.V
