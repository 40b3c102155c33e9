/- A clone of any value that is not too wide (Clone, cloneAll). The order of names as numbers (osF), which of them are kept (keptP), the struct's tree (structT). -/
import Derived.Test.YtnnclhmhbmbkfaaGreatDoorXaa
import Derived.Test.YtnnclhmhbmbkfaaGreatDoorXam
import Derived.Laws.MakeOwn
import Derived.Test.YtnnclhmhbmbkfaaGreatDoorXab
namespace Go.Proofs.YtnnclhmhbmbkfaaGreatDoor.V
open Go.RowKit
def slimq : Tr → Prop
  | .no => True
  | .mk _ _ _ _ m f q _ => m ≤ 64 ∧ q ≤ 64 ∧ ∀ i, i < m → slimq (f i)
def CloneC (t : Tr) : Prop := ∀ (B : Nat) (w : World) (x : Ad), Lies B w t x → B ≤ w.heap.size →
  Calls Tryz.prog 22 #[t.val x] w fun e w' => ∃ A, e = .returned (t.val A) ∧ LiesS (fun k => w.heap.size ≤ k ∧ k < w'.heap.size) w' t A ∧ Below w.heap.size w w'
structure Row6 (w : World) (z m i : Nat) (f : Nat → Tr) (A : Nat → Ad) : Prop where
  row : ∃ cur, w.heap[z]? = some (.cells cur 25 (0, 0)) ∧ cur.size = m * 6 ∧ ∀ j, j < i → ∀ c, c < 6 → cur[j * 6 + c]? = ((f j).cs (A j))[c]?
set_option maxRecDepth 100000 in
theorem Row6.kept {w w' : World} {z m i : Nat} {f : Nat → Tr} {A : Nat → Ad} (h : Row6 w z m i f A) (hk : w'.heap[z]? = w.heap[z]?) : Row6 w' z m i f A := by
  obtain ⟨cur, h1, h2, h3⟩ := h.row
  exact ⟨cur, hk.trans h1, h2, h3⟩
set_option maxRecDepth 100000 in
theorem Row6.at6 {w : World} {z m i : Nat} {f : Nat → Tr} {A : Nat → Ad} (h : Row6 w z m i f A) : ∀ j, j < i → At6 w z (0 + j * 6) (f j) (A j) := by
  obtain ⟨cur, h1, h2, h3⟩ := h.row
  intro j hj
  have key : ∀ c, c < 6 → w.cell? ⟨z, j * 6 + c, none⟩ = ((f j).cs (A j))[c]? := fun c hc => by rw [cell_of_row w z _ cur _ _ h1]; exact h3 j hj c hc
  rw [Nat.zero_add]
  exact ⟨key 0 (by omega), key 1 (by omega), key 2 (by omega), key 3 (by omega), key 4 (by omega), key 5 (by omega)⟩
def put6 (w : World) (z o : Nat) (c0 c1 c2 c3 c4 c5 : Value) : World :=
  (((((w.setCell ⟨z, o, none⟩ c0).setCell ⟨z, o + 1, none⟩ c1).setCell ⟨z, o + 2, none⟩ c2).setCell ⟨z, o + 3, none⟩ c3).setCell ⟨z, o + 4, none⟩ c4).setCell ⟨z, o + 5, none⟩ c5
set_option maxRecDepth 100000 in
theorem put6_block (w : World) (z o : Nat) (c0 c1 c2 c3 c4 c5 : Value) (k : Nat) (h : k ≠ z) : (put6 w z o c0 c1 c2 c3 c4 c5).heap[k]? = w.heap[k]? := by
  unfold put6
  rw [Below.heap_setCell _ _ _ k h, Below.heap_setCell _ _ _ k h, Below.heap_setCell _ _ _ k h, Below.heap_setCell _ _ _ k h, Below.heap_setCell _ _ _ k h, Below.heap_setCell _ _ _ k h]
set_option maxRecDepth 100000 in
theorem put6_size (w : World) (z o : Nat) (c0 c1 c2 c3 c4 c5 : Value) : (put6 w z o c0 c1 c2 c3 c4 c5).heap.size = w.heap.size := by unfold put6; simp
set_option maxRecDepth 100000 in
theorem put6_below {B : Nat} {a w : World} (hb : Below B a w) (z o : Nat) (hz : B ≤ z) (c0 c1 c2 c3 c4 c5 : Value) : Below B a (put6 w z o c0 c1 c2 c3 c4 c5) :=
  (((((hb.setCell (p := ⟨z, o, none⟩) hz c0).setCell (p := ⟨z, o + 1, none⟩) hz c1).setCell (p := ⟨z, o + 2, none⟩) hz c2).setCell (p := ⟨z, o + 3, none⟩) hz c3).setCell (p := ⟨z, o + 4, none⟩) hz c4).setCell (p := ⟨z, o + 5, none⟩) hz c5
set_option maxRecDepth 100000 in
theorem Row6.put {w : World} {z m i : Nat} {f : Nat → Tr} {A : Nat → Ad} (h : Row6 w z m i f A) (a : Ad) (hi : i < m) : Row6 (put6 w z (i * 6) (.int .i64 (f i).k) (.bool (f i).b) (.int .i64 (f i).n) (.string (f i).s) (.slice a.pa (f i).m a.pc) (.slice a.na (f i).q a.nc)) z m (i + 1) f (fun j => if j = i then a else A j) := by
  obtain ⟨cur, h1, h2, h3⟩ := h.row
  refine ⟨_, row_setCell (k := i * 6 + 5) (row_setCell (k := i * 6 + 4) (row_setCell (k := i * 6 + 3) (row_setCell (k := i * 6 + 2) (row_setCell (k := i * 6 + 1) (row_setCell (k := i * 6) h1 _) _) _) _) _) _, by simp [h2], ?_⟩
  intro j hj c hc
  by_cases hji : j = i
  · subst hji
    rw [if_pos rfl]
    have hc' : c = 0 ∨ c = 1 ∨ c = 2 ∨ c = 3 ∨ c = 4 ∨ c = 5 := by omega
    rcases hc' with rfl | rfl | rfl | rfl | rfl | rfl <;> simp [Array.getElem?_setIfInBounds, h2, Tr.cs] <;> omega
  · rw [if_neg hji, ← h3 j (by omega) c hc]
    simp only [Array.getElem?_setIfInBounds]
    rw [if_neg (by omega), if_neg (by omega), if_neg (by omega), if_neg (by omega), if_neg (by omega), if_neg (by omega)]
set_option maxRecDepth 100000 in
set_option maxHeartbeats 4000000 in
theorem cloneAll_some {B : Nat} {w : World} {m pb po pc : Nat} {f : Nat → Tr} {A : Nat → Ad} (hm : 0 < m) (h64 : m ≤ 64) (hB : B ≤ w.heap.size) (hpb : pb < B) (hat : ∀ i, i < m → At6 w pb (po + i * 6) (f i) (A i)) (hr : ∀ i, i < m → Lies B w (f i) (A i)) (ih : ∀ i, i < m → CloneC (f i)) :
    Calls Tryz.prog 46 #[.slice (some ⟨pb, po, none⟩) m pc] w fun e w' => ∃ (A' : Nat → Ad), e = .returned (.slice (some ⟨w.heap.size, 0, none⟩) m m) ∧ (∀ i, i < m → At6 w' w.heap.size (0 + i * 6) (f i) (A' i)) ∧ (∀ i, i < m → LiesS (fun k => w.heap.size < k ∧ k < w'.heap.size) w' (f i) (A' i)) ∧ Below w.heap.size w w' ∧ w.heap.size < w'.heap.size := by
  obtain ⟨i0, hi, hz0, hz1, hz2⟩ := info_parts info25
  have hmk : ∀ W : World, (Instr.makeSlice 22 (.int .i64 (m : Int)) (.int .i64 (m : Int))).run Tryz.prog W = .ok (.slice (some ⟨W.heap.size, 0, none⟩) m m) (W.alloc (.cells (madeCells (Value.cells (.agg #[.int .i64 0, .bool false, .int .i64 0, .string ⟨#[]⟩, .slice none 0 0, .slice none 0 0])) (m * 6)) 25)) := fun W => by
    have := run_makeSlice (P := Tryz.prog) W 22 25 i0 _ Tryz.underlying22 hi hz0 .i64 .i64 (m : Int) (m : Int) (by omega) (by omega) (by rw [hz1]; simp; omega) (by rw [hz2]; omega) (by omega)
    rw [hz1] at this
    simpa using this
  obtain ⟨zs, hzs⟩ : ∃ zs, madeCells (Value.cells (.agg #[.int .i64 0, .bool false, .int .i64 0, .string ⟨#[]⟩, .slice none 0 0, .slice none 0 0])) (m * 6) = zs := ⟨_, rfl⟩
  have hzn : zs.size = m * 6 := by rw [← hzs]; exact size_madeCells _ _
  rw [hzs] at hmk
  have hmz : ((m : Int) == 0) = false := by simp; omega
  have HA : Hid (∀ i, i < m → At6 w pb (po + i * 6) (f i) (A i)) := hat
  have HR : Hid (∀ i, i < m → Lies B w (f i) (A i)) := hr
  have HI : Hid (∀ i, i < m → CloneC (f i)) := ih
  have HZ : Hid (zs.size = m * 6) := hzn
  clear hat hr ih hzn hzs hi hz0 hz1 hz2
  go_enter Tryz.func46, Tryz.ntmps46
  go_wp2_with fail
  go_loopw [14] (fun c14 wr => ∃ (i : Nat) (A' : Nat → Ad), i ≤ m ∧ c14 = .int .i64 (i : Int) ∧ Row6 wr w.heap.size m i f A' ∧ (∀ j, j < i → LiesS (fun k => w.heap.size < k ∧ k < wr.heap.size) wr (f j) (A' j)) ∧ Below w.heap.size w wr) (fun c14 _ => m - (intOf c14).toNat)
  case atStart => exact ⟨0, A, by omega, rfl, ⟨zs, heap_alloc_new w _, HZ.out, fun j hj => by omega⟩, fun j hj => by omega, (Below.refl _ w).alloc (Nat.le_refl _) _⟩
  case round =>
    obtain ⟨i, A', hi', rfl, hrow, hlies, hbw⟩ := hrel
    by_cases him : i < m
    · have him' : (i : Int) < (m : Int) := by omega
      have hszr : w.heap.size < wr.heap.size := by obtain ⟨_, h, _⟩ := hrow.row; exact lt_of_row h
      have hBw : Below B w wr := hbw.mono hB
      have h6a := (HA.out i him).later hpb hBw
      have d0 := h6a.c0
      have d1 := h6a.c1
      have d2 := h6a.c2
      have d3 := h6a.c3
      have d4 := h6a.c4
      have d5 := h6a.c5
      have hLi := (HR.out i him).later hBw
      clear h6a
      obtain ⟨t, ht⟩ : ∃ t, f i = t := ⟨_, rfl⟩
      rw [ht] at d0 d1 d2 d3 d4 d5 hLi
      obtain ⟨a, ha⟩ : ∃ a, A i = a := ⟨_, rfl⟩
      rw [ha] at d4 d5 hLi
      have HC : Hid (CloneC t) := by rw [← ht]; exact HI.out i him
      go_wp2_with fail
      obtain ⟨W2, hW2⟩ : ∃ W2, wr.alloc (.cells #[.int .i64 t.k, .bool t.b, .int .i64 t.n, .string t.s, .slice a.pa t.m a.pc, .slice a.na t.q a.nc] 25) = W2 := ⟨_, rfl⟩
      have hb2 : Below wr.heap.size wr W2 := by rw [← hW2]; exact (Below.refl _ wr).alloc (Nat.le_refl _) _
      have hs2 : W2.heap.size = wr.heap.size + 1 := by rw [← hW2]; simp
      rw [hW2]
      have hL2 : Lies B W2 t a := hLi.later (hb2.mono (by omega))
      clear hW2
      refine (HC.out B W2 a hL2 (by omega)).mono ?_
      rintro e w1 ⟨A1, he, hL1, hb1⟩
      replace he : e = .returned (.agg #[.int .i64 t.k, .bool t.b, .int .i64 t.n, .string t.s, .slice A1.pa t.m A1.pc, .slice A1.na t.q A1.nc]) := he
      subst he
      have hk1 : ∀ k, k < wr.heap.size → w1.heap[k]? = wr.heap[k]? := fun k hk => (hb1.block k (by omega)).trans (hb2.block k hk)
      have hrow1 := hrow.kept (hk1 _ hszr)
      have hl1 : ∀ j, j < i → LiesS (fun k => w.heap.size < k ∧ k < wr.heap.size) w1 (f j) (A' j) := fun j hj => (hlies j hj).kept (fun k hk => hk1 k hk.2)
      have hbb : Below w.heap.size w w1 := hbw.trans ((hb2.trans (hb1.mono (by omega))).mono (by omega))
      have hsz1 := hb1.size
      obtain ⟨cur, hcu, hcn, hcs⟩ := hrow1.row
      have fz : ∀ c, w1.frozen? ⟨w.heap.size, i * 6 + c, none⟩ = false := fun c => frozen_of_row w1 _ _ _ _ hcu
      have f0 := fz 0
      have f1 := fz 1
      have f2 := fz 2
      have f3 := fz 3
      have f4 := fz 4
      have f5 := fz 5
      have hce : ∀ c, c < 6 → ∃ v, w1.cell? ⟨w.heap.size, i * 6 + c, none⟩ = some v := fun c hc => by
        rw [cell_of_row w1 _ _ _ _ _ hcu]
        exact ⟨_, Array.getElem?_eq_getElem (by omega)⟩
      obtain ⟨v0, e0⟩ := hce 0 (by omega)
      obtain ⟨v1, e1⟩ := hce 1 (by omega)
      obtain ⟨v2, e2⟩ := hce 2 (by omega)
      obtain ⟨v3, e3⟩ := hce 3 (by omega)
      obtain ⟨v4, e4⟩ := hce 4 (by omega)
      obtain ⟨v5, e5⟩ := hce 5 (by omega)
      rw [Nat.add_zero] at e0 f0
      clear fz hce hcs hcn hcu cur
      have HRW : Hid (Row6 w1 w.heap.size m i f A') := hrow1
      have HL1 : Hid (∀ j, j < i → LiesS (fun k => w.heap.size < k ∧ k < wr.heap.size) w1 (f j) (A' j)) := hl1
      have HBB : Hid (Below w.heap.size w w1) := hbb
      have HLT : Hid (LiesS (fun k => W2.heap.size ≤ k ∧ k < w1.heap.size) w1 t A1) := hL1
      clear hrow1 hl1 hbb hL1 hb1 hk1 hrow hlies hbw hBw hLi hL2 hb2 d0 d1 d2 d3 d4 d5
      go_wp2
      have hput : Row6 (put6 w1 w.heap.size (i * 6) (.int .i64 t.k) (.bool t.b) (.int .i64 t.n) (.string t.s) (.slice A1.pa t.m A1.pc) (.slice A1.na t.q A1.nc)) w.heap.size m (i + 1) f (fun j => if j = i then A1 else A' j) := by
        have := HRW.out.put A1 him
        rw [ht] at this
        exact this
      have hkp : ∀ k, k ≠ w.heap.size → (put6 w1 w.heap.size (i * 6) (.int .i64 t.k) (.bool t.b) (.int .i64 t.n) (.string t.s) (.slice A1.pa t.m A1.pc) (.slice A1.na t.q A1.nc)).heap[k]? = w1.heap[k]? := fun k hk => put6_block _ _ _ _ _ _ _ _ _ k hk
      have hps := put6_size w1 w.heap.size (i * 6) (.int .i64 t.k) (.bool t.b) (.int .i64 t.n) (.string t.s) (.slice A1.pa t.m A1.pc) (.slice A1.na t.q A1.nc)
      have hpb2 := put6_below HBB.out w.heap.size (i * 6) (Nat.le_refl _) (.int .i64 t.k) (.bool t.b) (.int .i64 t.n) (.string t.s) (.slice A1.pa t.m A1.pc) (.slice A1.na t.q A1.nc)
      go_roundw
      case rel =>
        refine ⟨i + 1, _, by omega, by go_num, hput, fun j hj => ?_, hpb2⟩
        by_cases hji : j = i
        · subst hji
          show LiesS _ _ (f j) (if j = j then A1 else A' j)
          rw [if_pos rfl, ht]
          exact (HLT.out.kept (fun k hk => hkp k (by omega))).up (fun k hk => ⟨by omega, Nat.lt_of_lt_of_eq hk.2 hps.symm⟩)
        · show LiesS _ _ (f j) (if j = i then A1 else A' j)
          rw [if_neg hji]
          exact ((HL1.out j (by omega)).kept (fun k hk => hkp k (by omega))).up (fun k hk => ⟨hk.1, Nat.lt_of_lt_of_eq (Nat.lt_of_lt_of_le hk.2 (by omega)) hps.symm⟩)
      case measure => simp [intOf]; omega
    · obtain rfl : i = m := by omega
      have hszr : w.heap.size < wr.heap.size := by obtain ⟨_, h, _⟩ := hrow.row; exact lt_of_row h
      go_wp2
      go_ret
      exact ⟨A', rfl, hrow.at6, hlies, hbw, hszr⟩
set_option maxRecDepth 100000 in
theorem cloneAll_any {B : Nat} {w : World} {m pc : Nat} {pa : Option Addr} {f : Nat → Tr} {A : Nat → Ad} (h64 : m ≤ 64) (hB : B ≤ w.heap.size) (hp : 0 < m → ∃ b o, pa = some ⟨b, o, none⟩ ∧ b < B ∧ ∀ i, i < m → At6 w b (o + i * 6) (f i) (A i)) (hr : ∀ i, i < m → Lies B w (f i) (A i)) (ih : ∀ i, i < m → CloneC (f i)) :
    Calls Tryz.prog 46 #[.slice pa m pc] w fun e w' => ∃ (pa' : Option Addr) (pc' : Nat) (A' : Nat → Ad), e = .returned (.slice pa' m pc') ∧ (m ≤ pc' ∧ pc' ≤ maxLen) ∧ (0 < m → ∃ b o, pa' = some ⟨b, o, none⟩ ∧ (w.heap.size ≤ b ∧ b < w'.heap.size) ∧ ∀ i, i < m → At6 w' b (o + i * 6) (f i) (A' i)) ∧ (∀ i, i < m → LiesS (fun k => w.heap.size ≤ k ∧ k < w'.heap.size) w' (f i) (A' i)) ∧ Below w.heap.size w w' := by
  by_cases hm : 0 < m
  · obtain ⟨b, o, rfl, hb, hat⟩ := hp hm
    refine (cloneAll_some hm h64 hB hb hat hr ih).mono ?_
    rintro e w' ⟨A', rfl, h1, h2, h3, h4⟩
    exact ⟨_, m, A', rfl, ⟨Nat.le_refl _, by unfold maxLen; omega⟩, fun _ => ⟨w.heap.size, 0, rfl, ⟨Nat.le_refl _, h4⟩, h1⟩, fun i hi => (h2 i hi).up (fun k hk => ⟨by omega, hk.2⟩), h3⟩
  · obtain rfl : m = 0 := by omega
    refine (cloneAll_none pa pc w).mono ?_
    rintro e w' ⟨rfl, rfl⟩
    exact ⟨none, 0, A, rfl, ⟨Nat.le_refl _, Nat.zero_le _⟩, fun h => by omega, fun i hi => by omega, Below.refl _ _⟩
set_option maxRecDepth 100000 in
set_option maxHeartbeats 4000000 in
theorem clone_some {k : Int} {b : Bool} {n : Int} {s : ByteArray} {m : Nat} {f : Nat → Tr} {q : Nat} {g : Nat → ByteArray} (h64 : m ≤ 64) (hq64 : q ≤ 64) (hq0 : 0 < q) (ih : ∀ i, i < m → CloneC (f i)) : CloneC (.mk k b n s m f q g) := by
  intro B w x hL hB
  obtain ⟨A, hp, hr⟩ := hL.part
  have hN := hL.lims
  replace hN : (-9223372036854775808 ≤ k ∧ k < 9223372036854775808) ∧ (-9223372036854775808 ≤ n ∧ n < 9223372036854775808) ∧ s.size ≤ maxLen ∧ (m ≤ x.pc ∧ x.pc ≤ maxLen) ∧ Names B w q g x.na x.nc := hN
  obtain ⟨pa, pc, na, nc⟩ := x
  replace hp : 0 < m → ∃ b o, pa = some ⟨b, o, none⟩ ∧ b < B ∧ ∀ i, i < m → At6 w b (o + i * 6) (f i) (A i) := hp
  obtain ⟨hk, hn, hs, hm, hq1, hq2, hq3, hq4⟩ := hN
  replace hq4 : 0 < q → ∃ b o, na = some ⟨b, o, none⟩ ∧ b < B ∧ ∀ i, i < q → w.cell? ⟨b, o + i, none⟩ = some (.string (g i)) := hq4
  have HK : Hid (-9223372036854775808 ≤ k ∧ k < 9223372036854775808) := hk
  have HN : Hid (-9223372036854775808 ≤ n ∧ n < 9223372036854775808) := hn
  have HS : Hid (s.size ≤ maxLen) := hs
  have HG : Hid (∀ i, i < q → (g i).size ≤ maxLen) := hq3
  have HP : Hid (0 < m → ∃ b o, pa = some ⟨b, o, none⟩ ∧ b < B ∧ ∀ i, i < m → At6 w b (o + i * 6) (f i) (A i)) := hp
  have HR : Hid (∀ i, i < m → Lies B w (f i) (A i)) := hr
  have HI : Hid (∀ i, i < m → CloneC (f i)) := ih
  clear hk hn hs hm hq1 hq2 hq3 hp hr ih hL
  show Calls Tryz.prog 22 #[.agg #[.int .i64 k, .bool b, .int .i64 n, .string s, .slice pa m pc, .slice na q nc]] w _
  obtain ⟨W2, hW2⟩ : ∃ W2, (w.alloc (.cells #[.int .i64 k, .bool b, .int .i64 n, .string s, .slice pa m pc, .slice na q nc] 25)).alloc (.cells #[.int .i64 0, .bool false, .int .i64 0, .string ⟨#[]⟩, .slice none 0 0, .slice none 0 0] 25) = W2 := ⟨_, rfl⟩
  have hb2 : Below w.heap.size w W2 := by rw [← hW2]; exact ((Below.refl _ w).alloc (Nat.le_refl _) _).alloc (by simp) _
  have hs2 : W2.heap.size = w.heap.size + 1 + 1 := by rw [← hW2]; simp
  have r0 : W2.heap[w.heap.size]? = some (.cells #[.int .i64 k, .bool b, .int .i64 n, .string s, .slice pa m pc, .slice na q nc] 25 (0, 0)) := by
    rw [← hW2, Below.heap_alloc _ _ _ (by simp)]; exact heap_alloc_new _ _
  have r1 : W2.heap[w.heap.size + 1]? = some (.cells #[.int .i64 0, .bool false, .int .i64 0, .string ⟨#[]⟩, .slice none 0 0, .slice none 0 0] 25 (0, 0)) := by
    rw [← hW2]; have := heap_alloc_new (w.alloc (.cells #[.int .i64 k, .bool b, .int .i64 n, .string s, .slice pa m pc, .slice na q nc] 25)) (.cells #[.int .i64 0, .bool false, .int .i64 0, .string ⟨#[]⟩, .slice none 0 0, .slice none 0 0] 25); simpa using this
  have c5 := cell_of_row W2 _ 5 _ _ _ r0
  have z5 := frozen_of_row W2 _ 5 _ _ r0
  have HW : Hid ((w.alloc (.cells #[.int .i64 k, .bool b, .int .i64 n, .string s, .slice pa m pc, .slice na q nc] 25)).alloc (.cells #[.int .i64 0, .bool false, .int .i64 0, .string ⟨#[]⟩, .slice none 0 0, .slice none 0 0] 25) = W2) := hW2
  clear hW2
  obtain ⟨j0, hj, hy0, hy1, hy2⟩ := info_parts info9
  go_enter Tryz.func22, Tryz.ntmps22
  obtain ⟨nb, no, rfl, hnb, hnc⟩ := hq4 hq0
  have hnl : ((List.range q).map g).length = q := by simp
  have hnews : ∀ j u, (strs ((List.range q).map g))[j]? = some u → W2.cell? ((⟨nb, no, none⟩ : Addr).add j) = some u := fun j u hu => by
    simp only [strs, List.map_map, List.getElem?_map] at hu
    rcases Nat.lt_or_ge j q with hjq | hjq
    · rw [List.getElem?_range hjq] at hu
      injection hu with hu
      subst hu
      have h9 := cell_later (a := ⟨nb, no + j, none⟩) (hnc j hjq) hnb (hb2.mono hB)
      have h8 : (⟨nb, no, none⟩ : Addr).add j = ⟨nb, no + j, none⟩ := by
        by_cases h0 : j = 0
        · subst h0; simp [Addr.add]
        · simp [Addr.add, h0]
      rw [h8]
      exact h9
    · rw [List.getElem?_eq_none (by simpa using hjq)] at hu
      cases hu
  have hone : ∀ u ∈ strs ((List.range q).map g), u.oneCell' = true := fun u hu => by
    simp only [strs, List.mem_map] at hu
    obtain ⟨s, _, rfl⟩ := hu
    rfl
  obtain ⟨nl, hnl2⟩ : ∃ nl, (List.range q).map g = nl := ⟨_, rfl⟩
  rw [hnl2] at hnl hnews hone
  have HNL : Hid ((List.range q).map g = nl) := hnl2
  have HNE : Hid (∀ j u, (strs nl)[j]? = some u → W2.cell? ((⟨nb, no, none⟩ : Addr).add j) = some u) := hnews
  have HON : Hid (∀ u ∈ strs nl, u.oneCell' = true) := hone
  have HLN : Hid (nl.length = q) := hnl
  clear hnl hnl2 hnews hone hnc hq4
  go_wp2_with (at_builtin; rw [HW.out]; refine wpList_append_lies _ (by rfl) (.const (.slice none 0 0)) (.tmp 4) 23 (by rfl) (w.heap.size + 1 + 1) 9 j0 _ 1 16 Tryz.underlying23 hj hy0 hy1 hy2 (by rfl) (by decide) (.slice none 0 0) 0 [] (by rfl) ⟨rfl, Or.inl ⟨rfl, rfl⟩⟩ ⟨nb, no, none⟩ q nc (strs nl) (by rfl) (by rw [strs, List.length_map, HLN.out]; omega) HNE.out HON.out hq0 (by unfold maxLen; omega) (by omega) (by omega) (w.heap.size + 1 + 1) hs2 ?_; intro g1 cap1 w3 hown3 hgr3 hat3 hlt3; have r03 := (hgr3.block _ (lt_of_row r0) (by simp [Value.ownBlock])).trans r0; have c53 := cell_of_row w3 _ 5 _ _ _ r03; have z53 := frozen_of_row w3 _ 5 _ _ r03; have c43 := cell_of_row w3 _ 4 _ _ _ r03; have z43 := frozen_of_row w3 _ 4 _ _ r03)
  obtain ⟨W4, hW4⟩ : ∃ W4, w3.setCell ⟨w.heap.size, 5, none⟩ (.slice (some ⟨g1, 0, none⟩) q cap1) = W4 := ⟨_, rfl⟩
  have hk4 : ∀ k1, k1 ≠ w.heap.size → W4.heap[k1]? = w3.heap[k1]? := fun k1 h1 => by rw [← hW4]; exact Below.heap_setCell _ _ _ k1 h1
  have hs4 : W4.heap.size = w3.heap.size := by rw [← hW4]; simp
  have hsz3 := hgr3.size
  have r04 : W4.heap[w.heap.size]? = some (.cells #[.int .i64 k, .bool b, .int .i64 n, .string s, .slice pa m pc, .slice (some ⟨g1, 0, none⟩) q cap1] 25 (0, 0)) := by rw [← hW4]; exact row_setCell (k := 5) r03 _
  have r14 : W4.heap[w.heap.size + 1]? = some (.cells #[.int .i64 0, .bool false, .int .i64 0, .string ⟨#[]⟩, .slice none 0 0, .slice none 0 0] 25 (0, 0)) := by
    rw [hk4 _ (by omega), hgr3.block _ (lt_of_row r1) (by simp [Value.ownBlock])]; exact r1
  have hb4 : Below w.heap.size w W4 := by
    rw [← hW4]
    exact (hb2.grown hgr3 (by omega) (fun k hk => by cases hk)).setCell (p := ⟨w.heap.size, 5, none⟩) (Nat.le_refl _) _
  have hnm3 : Nms (w.heap.size + 1 + 1) w3 (.slice (some ⟨g1, 0, none⟩) q cap1) nl := by
    unfold Nms
    rw [HLN.out]
    simpa using hown3
  have hnm4 := hnm3.kept (w' := W4) (fun k1 h1 _ => hk4 k1 (by omega))
  rw [hW4]
  clear hW4 hk4 hnm3 hown3 hgr3 hat3 hlt3 r03 c53 z53 c43 z43 HW HNE HON
  obtain ⟨u, hu⟩ : ∃ u, Value.slice (some ⟨g1, 0, none⟩) q cap1 = u := ⟨_, rfl⟩
  rw [hu] at hnm4 r04
  clear hu
  have hg4 : ∀ i, i < q → g i = nl.getD i ⟨#[]⟩ := fun i hi => by rw [← HNL.out]; simp [List.getD_eq_getElem?_getD, hi]
  have HG4 : Hid (∀ i, i < q → g i = nl.getD i ⟨#[]⟩) := hg4
  have HSZ : Hid (∀ s ∈ nl, s.size ≤ maxLen) := fun s hs => by
    rw [← HNL.out] at hs
    simp only [List.mem_map, List.mem_range] at hs
    obtain ⟨i, hi, rfl⟩ := hs
    exact HG.out i hi
  refine (cloneAll_any (B := B) (A := A) (f := f) h64 (by omega) (fun h0 => ?_) (fun i hi => (HR.out i hi).later (hb4.mono hB)) HI.out).mono ?_
  · obtain ⟨b1, o1, h1, h2, h3⟩ := HP.out h0
    exact ⟨b1, o1, h1, h2, fun i hi => (h3 i hi).later h2 (hb4.mono hB)⟩
  rintro e w5 ⟨pa', pc', A', rfl, hpc, hpp, hll, hb5⟩
  have hsz5 := hb5.size
  have r05 := (hb5.block _ (lt_of_row r04)).trans r04
  have r15 := (hb5.block _ (lt_of_row r14)).trans r14
  have hnm5 := hnm4.kept (w' := w5) (fun k1 _ h2 => hb5.block k1 h2)
  have a4 := cell_of_row w5 _ 4 _ _ _ r05
  have y4 := frozen_of_row w5 _ 4 _ _ r05
  obtain ⟨W6, hW6⟩ : ∃ W6, w5.setCell ⟨w.heap.size, 4, none⟩ (.slice pa' m pc') = W6 := ⟨_, rfl⟩
  have hk6 : ∀ k1, k1 ≠ w.heap.size → W6.heap[k1]? = w5.heap[k1]? := fun k1 h1 => by rw [← hW6]; exact Below.heap_setCell _ _ _ k1 h1
  have hs6 : W6.heap.size = w5.heap.size := by rw [← hW6]; simp
  have r06 : W6.heap[w.heap.size]? = some (.cells #[.int .i64 k, .bool b, .int .i64 n, .string s, .slice pa' m pc', u] 25 (0, 0)) := by rw [← hW6]; exact row_setCell (k := 4) r05 _
  have r16 := (hk6 (w.heap.size + 1) (by omega)).trans r15
  have hb6 : Below w.heap.size w W6 := by
    rw [← hW6]
    exact (hb4.trans (hb5.mono (by omega))).setCell (p := ⟨w.heap.size, 4, none⟩) (Nat.le_refl _) _
  have hnm6 := hnm5.kept (w' := W6) (fun k1 h1 _ => hk6 k1 (by omega))
  have hll6 : ∀ i, i < m → LiesS (fun k => W4.heap.size ≤ k ∧ k < w5.heap.size) W6 (f i) (A' i) := fun i hi => (hll i hi).kept (fun k1 hk => hk6 k1 (by omega))
  have hpp6 : 0 < m → ∃ b o, pa' = some ⟨b, o, none⟩ ∧ (W4.heap.size ≤ b ∧ b < w5.heap.size) ∧ ∀ i, i < m → At6 W6 b (o + i * 6) (f i) (A' i) := fun h0 => by
    obtain ⟨b1, o1, h1, h2, h3⟩ := hpp h0
    exact ⟨b1, o1, h1, h2, fun i hi => (h3 i hi).kept (hk6 b1 (by omega))⟩
  clear hnm4 hnm5 hll hpp hk6 r15 r05
  obtain ⟨na', nc', rfl, hnk⟩ := hnm6.done (S := fun k => w.heap.size + 1 + 1 ≤ k ∧ k < W6.heap.size) HSZ.out (fun k h1 h2 => ⟨h1, h2⟩)
  rw [HLN.out] at hnk r06
  have a0 := cell_of_row W6 _ 0 _ _ _ r06
  have a1 := cell_of_row W6 _ 1 _ _ _ r06
  have a2 := cell_of_row W6 _ 2 _ _ _ r06
  have a3 := cell_of_row W6 _ 3 _ _ _ r06
  have a46 := cell_of_row W6 _ 4 _ _ _ r06
  have a5 := cell_of_row W6 _ 5 _ _ _ r06
  have b0 := cell_of_row W6 _ 0 _ _ _ r16
  have b1 := cell_of_row W6 _ 1 _ _ _ r16
  have b2 := cell_of_row W6 _ 2 _ _ _ r16
  have b3 := cell_of_row W6 _ 3 _ _ _ r16
  have b4 := cell_of_row W6 _ 4 _ _ _ r16
  have b5 := cell_of_row W6 _ 5 _ _ _ r16
  have y0 := frozen_of_row W6 _ 0 _ _ r16
  have y1 := frozen_of_row W6 _ 1 _ _ r16
  have y2 := frozen_of_row W6 _ 2 _ _ r16
  have y3 := frozen_of_row W6 _ 3 _ _ r16
  have y46 := frozen_of_row W6 _ 4 _ _ r16
  have y5 := frozen_of_row W6 _ 5 _ _ r16
  have HLL : Hid (∀ i, i < m → LiesS (fun k => W4.heap.size ≤ k ∧ k < w5.heap.size) W6 (f i) (A' i)) := hll6
  have HPP : Hid (0 < m → ∃ b o, pa' = some ⟨b, o, none⟩ ∧ (W4.heap.size ≤ b ∧ b < w5.heap.size) ∧ ∀ i, i < m → At6 W6 b (o + i * 6) (f i) (A' i)) := hpp6
  have HNK : Hid (NamesS (fun k => w.heap.size + 1 + 1 ≤ k ∧ k < W6.heap.size) W6 q (fun i => nl.getD i ⟨#[]⟩) na' nc') := hnk
  clear hll6 hpp6 hnk hnm6
  go_wp2
  change bodyPost _ _ _ _ _ (set6 W6 (w.heap.size + 1) (.int .i64 k) (.bool b) (.int .i64 n) (.string s) (.slice pa' m pc') (.slice na' q nc'))
  have hro := set6_row r16 (.int .i64 k) (.bool b) (.int .i64 n) (.string s) (.slice pa' m pc') (.slice na' q nc')
  have hkeep : ∀ k1, k1 ≠ w.heap.size + 1 → (set6 W6 (w.heap.size + 1) (.int .i64 k) (.bool b) (.int .i64 n) (.string s) (.slice pa' m pc') (.slice na' q nc')).heap[k1]? = W6.heap[k1]? := fun k1 h1 => set6_block _ _ _ _ _ _ _ _ k1 h1
  have hsz := set6_size W6 (w.heap.size + 1) (.int .i64 k) (.bool b) (.int .i64 n) (.string s) (.slice pa' m pc') (.slice na' q nc')
  have hof := set6_below hb6 (w.heap.size + 1) (by omega) (.int .i64 k) (.bool b) (.int .i64 n) (.string s) (.slice pa' m pc') (.slice na' q nc')
  obtain ⟨wf, hwf⟩ : ∃ wf, set6 W6 (w.heap.size + 1) (.int .i64 k) (.bool b) (.int .i64 n) (.string s) (.slice pa' m pc') (.slice na' q nc') = wf := ⟨_, rfl⟩
  rw [hwf] at hro hkeep hsz hof ⊢
  clear hwf
  have o0 := cell_of_row wf _ 0 _ _ _ hro
  have o1 := cell_of_row wf _ 1 _ _ _ hro
  have o2 := cell_of_row wf _ 2 _ _ _ hro
  have o3 := cell_of_row wf _ 3 _ _ _ hro
  have o4 := cell_of_row wf _ 4 _ _ _ hro
  have o5 := cell_of_row wf _ 5 _ _ _ hro
  refine bodyPost_ret (v := .agg #[.int .i64 k, .bool b, .int .i64 n, .string s, .slice pa' m pc', .slice na' q nc']) (by simp [results, Tryz.results22, go_sem, o0, o1, o2, o3, o4, o5]) rfl ⟨⟨pa', pc', na', nc'⟩, rfl, ?_, hof⟩
  refine .mk A' HK.out HN.out HS.out hpc (fun h0 => ?_) (fun i hi => ?_) ?_
  · obtain ⟨b1, o1, h1, h2, h3⟩ := HPP.out h0
    exact ⟨b1, o1, h1, ⟨by omega, by omega⟩, fun i hi => (h3 i hi).kept (hkeep b1 (by omega))⟩
  · exact ((HLL.out i hi).kept (fun k1 hk => hkeep k1 (by omega))).up (fun k1 hk => ⟨by omega, by omega⟩)
  · obtain ⟨h1, h2, h3, h4⟩ := HNK.out
    refine ⟨h1, h2, HG.out, fun h0 => ?_⟩
    obtain ⟨b1, o1, h5, h6, h7⟩ := h4 h0
    exact ⟨b1, o1, h5, ⟨by omega, by omega⟩, fun i hi => by rw [HG4.out i hi]; exact cell_kept (h7 i hi) (hkeep b1 (by omega))⟩
set_option maxRecDepth 100000 in
set_option maxHeartbeats 4000000 in
theorem clone_none {k : Int} {b : Bool} {n : Int} {s : ByteArray} {m : Nat} {f : Nat → Tr} {q : Nat} {g : Nat → ByteArray} (h64 : m ≤ 64) (hq64 : q ≤ 64) (hq0 : q = 0) (ih : ∀ i, i < m → CloneC (f i)) : CloneC (.mk k b n s m f q g) := by
  intro B w x hL hB
  obtain ⟨A, hp, hr⟩ := hL.part
  have hN := hL.lims
  replace hN : (-9223372036854775808 ≤ k ∧ k < 9223372036854775808) ∧ (-9223372036854775808 ≤ n ∧ n < 9223372036854775808) ∧ s.size ≤ maxLen ∧ (m ≤ x.pc ∧ x.pc ≤ maxLen) ∧ Names B w q g x.na x.nc := hN
  obtain ⟨pa, pc, na, nc⟩ := x
  replace hp : 0 < m → ∃ b o, pa = some ⟨b, o, none⟩ ∧ b < B ∧ ∀ i, i < m → At6 w b (o + i * 6) (f i) (A i) := hp
  obtain ⟨hk, hn, hs, hm, hq1, hq2, hq3, hq4⟩ := hN
  replace hq4 : 0 < q → ∃ b o, na = some ⟨b, o, none⟩ ∧ b < B ∧ ∀ i, i < q → w.cell? ⟨b, o + i, none⟩ = some (.string (g i)) := hq4
  have HK : Hid (-9223372036854775808 ≤ k ∧ k < 9223372036854775808) := hk
  have HN : Hid (-9223372036854775808 ≤ n ∧ n < 9223372036854775808) := hn
  have HS : Hid (s.size ≤ maxLen) := hs
  have HG : Hid (∀ i, i < q → (g i).size ≤ maxLen) := hq3
  have HP : Hid (0 < m → ∃ b o, pa = some ⟨b, o, none⟩ ∧ b < B ∧ ∀ i, i < m → At6 w b (o + i * 6) (f i) (A i)) := hp
  have HR : Hid (∀ i, i < m → Lies B w (f i) (A i)) := hr
  have HI : Hid (∀ i, i < m → CloneC (f i)) := ih
  clear hk hn hs hm hq1 hq2 hq3 hp hr ih hL
  show Calls Tryz.prog 22 #[.agg #[.int .i64 k, .bool b, .int .i64 n, .string s, .slice pa m pc, .slice na q nc]] w _
  have hnl2 : (List.range q).map g = [] := by rw [hq0]; rfl
  obtain ⟨nl, hnl3⟩ : ∃ nl : List ByteArray, nl = [] := ⟨_, rfl⟩
  rw [← hnl3] at hnl2
  have HNL : Hid ((List.range q).map g = nl) := hnl2
  have HLN : Hid (nl.length = q) := by show _ = _; rw [hnl3, hq0]; rfl
  have HN0 : Hid (nl = []) := hnl3
  clear hnl2 hnl3 hq4
  subst hq0
  go_enter Tryz.func22, Tryz.ntmps22
  rcases na with _ | na
  all_goals
    go_wp2_with fail
    obtain ⟨W4, hW4⟩ : ∃ W4, (w.alloc (.cells #[.int .i64 k, .bool b, .int .i64 n, .string s, .slice pa m pc, .slice none 0 0] 25)).alloc (.cells #[.int .i64 0, .bool false, .int .i64 0, .string ⟨#[]⟩, .slice none 0 0, .slice none 0 0] 25) = W4 := ⟨_, rfl⟩
    have hb4 : Below w.heap.size w W4 := by rw [← hW4]; exact ((Below.refl _ w).alloc (Nat.le_refl _) _).alloc (by simp) _
    have hs2 : W4.heap.size = w.heap.size + 1 + 1 := by rw [← hW4]; simp
    have r04 : W4.heap[w.heap.size]? = some (.cells #[.int .i64 k, .bool b, .int .i64 n, .string s, .slice pa m pc, .slice none 0 0] 25 (0, 0)) := by
      rw [← hW4, Below.heap_alloc _ _ _ (by simp)]; exact heap_alloc_new _ _
    have r14 : W4.heap[w.heap.size + 1]? = some (.cells #[.int .i64 0, .bool false, .int .i64 0, .string ⟨#[]⟩, .slice none 0 0, .slice none 0 0] 25 (0, 0)) := by
      rw [← hW4]; have := heap_alloc_new (w.alloc (.cells #[.int .i64 k, .bool b, .int .i64 n, .string s, .slice pa m pc, .slice none 0 0] 25)) (.cells #[.int .i64 0, .bool false, .int .i64 0, .string ⟨#[]⟩, .slice none 0 0, .slice none 0 0] 25); simpa using this
    have hnm4 : Nms (w.heap.size + 1 + 1) W4 (.slice none 0 0) nl := by rw [HN0.out]; exact Nms.start _ _
    rw [hW4]
    clear hW4
    obtain ⟨u, hu⟩ : ∃ u, Value.slice none 0 0 = u := ⟨_, rfl⟩
    rw [hu] at hnm4
    replace r04 : W4.heap[w.heap.size]? = some (.cells #[.int .i64 k, .bool b, .int .i64 n, .string s, .slice pa m pc, u] 25 (0, 0)) := by rw [← hu]; exact r04
    clear hu
    have hg4 : ∀ i, i < 0 → g i = nl.getD i ⟨#[]⟩ := fun i hi => by omega
    have HG4 : Hid (∀ i, i < 0 → g i = nl.getD i ⟨#[]⟩) := hg4
    have HSZ : Hid (∀ s ∈ nl, s.size ≤ maxLen) := fun s hs => by
      rw [← HNL.out] at hs
      simp only [List.mem_map, List.mem_range] at hs
      obtain ⟨i, hi, rfl⟩ := hs
      exact HG.out i hi
    refine (cloneAll_any (B := B) (A := A) (f := f) h64 (by omega) (fun h0 => ?_) (fun i hi => (HR.out i hi).later (hb4.mono hB)) HI.out).mono ?_
    · obtain ⟨b1, o1, h1, h2, h3⟩ := HP.out h0
      exact ⟨b1, o1, h1, h2, fun i hi => (h3 i hi).later h2 (hb4.mono hB)⟩
    rintro e w5 ⟨pa', pc', A', rfl, hpc, hpp, hll, hb5⟩
    have hsz5 := hb5.size
    have r05 := (hb5.block _ (lt_of_row r04)).trans r04
    have r15 := (hb5.block _ (lt_of_row r14)).trans r14
    have hnm5 := hnm4.kept (w' := w5) (fun k1 _ h2 => hb5.block k1 h2)
    have a4 := cell_of_row w5 _ 4 _ _ _ r05
    have y4 := frozen_of_row w5 _ 4 _ _ r05
    obtain ⟨W6, hW6⟩ : ∃ W6, w5.setCell ⟨w.heap.size, 4, none⟩ (.slice pa' m pc') = W6 := ⟨_, rfl⟩
    have hk6 : ∀ k1, k1 ≠ w.heap.size → W6.heap[k1]? = w5.heap[k1]? := fun k1 h1 => by rw [← hW6]; exact Below.heap_setCell _ _ _ k1 h1
    have hs6 : W6.heap.size = w5.heap.size := by rw [← hW6]; simp
    have r06 : W6.heap[w.heap.size]? = some (.cells #[.int .i64 k, .bool b, .int .i64 n, .string s, .slice pa' m pc', u] 25 (0, 0)) := by rw [← hW6]; exact row_setCell (k := 4) r05 _
    have r16 := (hk6 (w.heap.size + 1) (by omega)).trans r15
    have hb6 : Below w.heap.size w W6 := by
      rw [← hW6]
      exact (hb4.trans (hb5.mono (by omega))).setCell (p := ⟨w.heap.size, 4, none⟩) (Nat.le_refl _) _
    have hnm6 := hnm5.kept (w' := W6) (fun k1 h1 _ => hk6 k1 (by omega))
    have hll6 : ∀ i, i < m → LiesS (fun k => W4.heap.size ≤ k ∧ k < w5.heap.size) W6 (f i) (A' i) := fun i hi => (hll i hi).kept (fun k1 hk => hk6 k1 (by omega))
    have hpp6 : 0 < m → ∃ b o, pa' = some ⟨b, o, none⟩ ∧ (W4.heap.size ≤ b ∧ b < w5.heap.size) ∧ ∀ i, i < m → At6 W6 b (o + i * 6) (f i) (A' i) := fun h0 => by
      obtain ⟨b1, o1, h1, h2, h3⟩ := hpp h0
      exact ⟨b1, o1, h1, h2, fun i hi => (h3 i hi).kept (hk6 b1 (by omega))⟩
    clear hnm4 hnm5 hll hpp hk6 r15 r05
    obtain ⟨na', nc', rfl, hnk⟩ := hnm6.done (S := fun k => w.heap.size + 1 + 1 ≤ k ∧ k < W6.heap.size) HSZ.out (fun k h1 h2 => ⟨h1, h2⟩)
    rw [HLN.out] at hnk r06
    have a0 := cell_of_row W6 _ 0 _ _ _ r06
    have a1 := cell_of_row W6 _ 1 _ _ _ r06
    have a2 := cell_of_row W6 _ 2 _ _ _ r06
    have a3 := cell_of_row W6 _ 3 _ _ _ r06
    have a46 := cell_of_row W6 _ 4 _ _ _ r06
    have a5 := cell_of_row W6 _ 5 _ _ _ r06
    have b0 := cell_of_row W6 _ 0 _ _ _ r16
    have b1 := cell_of_row W6 _ 1 _ _ _ r16
    have b2 := cell_of_row W6 _ 2 _ _ _ r16
    have b3 := cell_of_row W6 _ 3 _ _ _ r16
    have b4 := cell_of_row W6 _ 4 _ _ _ r16
    have b5 := cell_of_row W6 _ 5 _ _ _ r16
    have y0 := frozen_of_row W6 _ 0 _ _ r16
    have y1 := frozen_of_row W6 _ 1 _ _ r16
    have y2 := frozen_of_row W6 _ 2 _ _ r16
    have y3 := frozen_of_row W6 _ 3 _ _ r16
    have y46 := frozen_of_row W6 _ 4 _ _ r16
    have y5 := frozen_of_row W6 _ 5 _ _ r16
    have HLL : Hid (∀ i, i < m → LiesS (fun k => W4.heap.size ≤ k ∧ k < w5.heap.size) W6 (f i) (A' i)) := hll6
    have HPP : Hid (0 < m → ∃ b o, pa' = some ⟨b, o, none⟩ ∧ (W4.heap.size ≤ b ∧ b < w5.heap.size) ∧ ∀ i, i < m → At6 W6 b (o + i * 6) (f i) (A' i)) := hpp6
    have HNK : Hid (NamesS (fun k => w.heap.size + 1 + 1 ≤ k ∧ k < W6.heap.size) W6 0 (fun i => nl.getD i ⟨#[]⟩) na' nc') := hnk
    clear hll6 hpp6 hnk hnm6
    go_wp2
    change bodyPost _ _ _ _ _ (set6 W6 (w.heap.size + 1) (.int .i64 k) (.bool b) (.int .i64 n) (.string s) (.slice pa' m pc') (.slice na' 0 nc'))
    have hro := set6_row r16 (.int .i64 k) (.bool b) (.int .i64 n) (.string s) (.slice pa' m pc') (.slice na' 0 nc')
    have hkeep : ∀ k1, k1 ≠ w.heap.size + 1 → (set6 W6 (w.heap.size + 1) (.int .i64 k) (.bool b) (.int .i64 n) (.string s) (.slice pa' m pc') (.slice na' 0 nc')).heap[k1]? = W6.heap[k1]? := fun k1 h1 => set6_block _ _ _ _ _ _ _ _ k1 h1
    have hsz := set6_size W6 (w.heap.size + 1) (.int .i64 k) (.bool b) (.int .i64 n) (.string s) (.slice pa' m pc') (.slice na' 0 nc')
    have hof := set6_below hb6 (w.heap.size + 1) (by omega) (.int .i64 k) (.bool b) (.int .i64 n) (.string s) (.slice pa' m pc') (.slice na' 0 nc')
    obtain ⟨wf, hwf⟩ : ∃ wf, set6 W6 (w.heap.size + 1) (.int .i64 k) (.bool b) (.int .i64 n) (.string s) (.slice pa' m pc') (.slice na' 0 nc') = wf := ⟨_, rfl⟩
    rw [hwf] at hro hkeep hsz hof ⊢
    clear hwf
    have o0 := cell_of_row wf _ 0 _ _ _ hro
    have o1 := cell_of_row wf _ 1 _ _ _ hro
    have o2 := cell_of_row wf _ 2 _ _ _ hro
    have o3 := cell_of_row wf _ 3 _ _ _ hro
    have o4 := cell_of_row wf _ 4 _ _ _ hro
    have o5 := cell_of_row wf _ 5 _ _ _ hro
    refine bodyPost_ret (v := .agg #[.int .i64 k, .bool b, .int .i64 n, .string s, .slice pa' m pc', .slice na' 0 nc']) (by simp [results, Tryz.results22, go_sem, o0, o1, o2, o3, o4, o5]) rfl ⟨⟨pa', pc', na', nc'⟩, rfl, ?_, hof⟩
    refine .mk A' HK.out HN.out HS.out hpc (fun h0 => ?_) (fun i hi => ?_) ?_
    · obtain ⟨b1, o1, h1, h2, h3⟩ := HPP.out h0
      exact ⟨b1, o1, h1, ⟨by omega, by omega⟩, fun i hi => (h3 i hi).kept (hkeep b1 (by omega))⟩
    · exact ((HLL.out i hi).kept (fun k1 hk => hkeep k1 (by omega))).up (fun k1 hk => ⟨by omega, by omega⟩)
    · obtain ⟨h1, h2, h3, h4⟩ := HNK.out
      refine ⟨h1, h2, HG.out, fun h0 => ?_⟩
      obtain ⟨b1, o1, h5, h6, h7⟩ := h4 h0
      exact ⟨b1, o1, h5, ⟨by omega, by omega⟩, fun i hi => by rw [HG4.out i hi]; exact cell_kept (h7 i hi) (hkeep b1 (by omega))⟩
set_option maxRecDepth 100000 in
theorem clone_all (t : Tr) (hS : slimq t) : CloneC t := by
  induction t with
  | no => exact fun _ _ _ hL => hL.no.elim
  | mk k b n s m f q g ih =>
    obtain ⟨h1, h2, h3⟩ : m ≤ 64 ∧ q ≤ 64 ∧ ∀ i, i < m → slimq (f i) := hS
    by_cases hq : q = 0
    · exact clone_none h1 h2 hq (fun i hi => ih i (h3 i hi))
    · exact clone_some h1 h2 (by omega) (fun i hi => ih i (h3 i hi))
end Go.Proofs.YtnnclhmhbmbkfaaGreatDoor.V
namespace Go.Proofs.YtnnclhmhbmbkfaaGreatDoor.V
open Go.Shelf Go.RowKit Go.Lib Go.Sort
def idF (n : Nat) : Array (Fin (n + 1)) := (List.finRange (n + 1)).toArray
set_option maxRecDepth 100000 in
theorem idF_size (n : Nat) : (idF n).size = n + 1 := by simp [idF]
set_option maxRecDepth 100000 in
theorem idF_get (n j : Nat) (h : j < n + 1) : (idF n)[j]! = ⟨j, h⟩ := by
  rw [getElem!_pos _ j (by rw [idF_size]; exact h)]
  simp [idF]
def osF (g : Nat → ByteArray) (n : Nat) (p : Nat) : Nat := ((sortF g n (idF n))[p]!).val
def keepP (g : Nat → ByteArray) (os : Nat → Nat) (N p : Nat) : Bool := !(decide (p + 1 < N) && ((g (os (p + 1))).toList == (g (os p)).toList))
def keptP (g : Nat → ByteArray) (os : Nat → Nat) (N : Nat) : Nat → List Nat
  | 0 => []
  | i + 1 => if keepP g os N i then keptP g os N i ++ [os i] else keptP g os N i
set_option maxRecDepth 100000 in
theorem kept_len (g : Nat → ByteArray) (os : Nat → Nat) (N : Nat) : ∀ i, (keptP g os N i).length ≤ i
  | 0 => Nat.le_refl _
  | i + 1 => by
    have := kept_len g os N i
    unfold keptP
    by_cases h : keepP g os N i = true
    · rw [if_pos h]; simp; omega
    · rw [if_neg h]; omega
set_option maxRecDepth 100000 in
theorem kept_prefix (g : Nat → ByteArray) (os : Nat → Nat) (N : Nat) (i : Nat) : ∀ k, keptP g os N i <+: keptP g os N (i + k)
  | 0 => List.prefix_rfl
  | k + 1 => by
    refine (kept_prefix g os N i k).trans ?_
    show _ <+: (if keepP g os N (i + k) then _ else _)
    by_cases h : keepP g os N (i + k) = true
    · rw [if_pos h]; exact List.prefix_append _ _
    · rw [if_neg h]; exact List.prefix_rfl
set_option maxRecDepth 100000 in
theorem kept_at (g : Nat → ByteArray) (os : Nat → Nat) (N i : Nat) (hi : i < N) (h : keepP g os N i = true) : (keptP g os N N).getD (keptP g os N i).length 0 = os i := by
  have h1 : keptP g os N (i + 1) = keptP g os N i ++ [os i] := by show (if _ then _ else _) = _; rw [if_pos h]
  obtain ⟨k, rfl⟩ : ∃ k, N = i + 1 + k := ⟨N - (i + 1), by omega⟩
  obtain ⟨r, hr⟩ := kept_prefix g os (i + 1 + k) (i + 1) k
  rw [← hr, h1]
  simp [List.getD_eq_getElem?_getD]
set_option maxRecDepth 100000 in
theorem kept_lt (g : Nat → ByteArray) (os : Nat → Nat) (N q : Nat) (hos : ∀ p, p < N → os p < q) : ∀ i, i ≤ N → ∀ a ∈ keptP g os N i, a < q
  | 0, _, a, ha => by cases ha
  | i + 1, hi, a, ha => by
    unfold keptP at ha
    by_cases h : keepP g os N i = true
    · rw [if_pos h] at ha
      rcases List.mem_append.1 ha with h1 | h1
      · exact kept_lt g os N q hos i (by omega) a h1
      · simp at h1; subst h1; exact hos i (by omega)
    · rw [if_neg h] at ha
      exact kept_lt g os N q hos i (by omega) a ha
def structT (g : Nat → ByteArray) (f : Nat → Tr) (os : Nat → Nat) (N : Nat) : Tr :=
  .mk 6 false 0 ⟨#[]⟩ (keptP g os N N).length (fun j => f ((keptP g os N N).getD j 0)) (keptP g os N N).length (fun j => ((keptP g os N N).map g).getD j ⟨#[]⟩)
set_option maxRecDepth 100000 in
theorem heap_putF {n : Nat} (w : World) (z : Nat) (d : Array (Fin (n + 1))) (k j : Nat) (h : j ≠ z) : ((putRow (encF n) w z 0 d).drewN k).heap[j]? = w.heap[j]? := by
  show (putRow (encF n) w z 0 d).heap[j]? = _
  simp only [putRow, mapBlock, Array.getElem?_modify]
  rw [if_neg (fun e => h e.symm)]
set_option maxRecDepth 100000 in
theorem insInner_size {α : Type} [Inhabited α] (lt : α → α → Bool) (a : Nat) : ∀ (j : Nat) (d : Array α), (insInner lt a j d).size = d.size
  | 0, _ => rfl
  | j + 1, d => by
    unfold insInner
    by_cases h : (decide (j + 1 > a) && lt d[j + 1]! d[j]!) = true
    · rw [if_pos h, insInner_size lt a j, swp_size]
    · rw [if_neg h]
set_option maxRecDepth 100000 in
theorem insOuter_size {α : Type} [Inhabited α] (lt : α → α → Bool) (a b : Nat) : ∀ (k i : Nat) (d : Array α), b - i = k → (insOuter lt a b i d).size = d.size
  | 0, i, d, h => by
    unfold insOuter
    rw [if_neg (by omega)]
  | k + 1, i, d, h => by
    unfold insOuter
    by_cases hb : i < b
    · rw [if_pos hb, insOuter_size lt a b k (i + 1) _ (by omega), insInner_size]
    · rw [if_neg hb]
set_option maxRecDepth 100000 in
theorem sortF_size (g : Nat → ByteArray) (n : Nat) (d : Array (Fin (n + 1))) : (sortF g n d).size = d.size := insOuter_size _ _ _ _ _ _ rfl
set_option maxRecDepth 100000 in
theorem info3 : (Tryz.prog.info? 3).map (fun i => (i.zero, i.size, i.bytes)) = some (some (.int .i64 0), 1, 8) := by kernel_rfl
set_option maxRecDepth 100000 in
theorem sort_ints {q nc n blk z b o : Nat} {g : Nat → ByteArray} {wr : World} {cur : Array Value} (hn12 : n + 1 ≤ 12) (hnq : n + 1 ≤ q) (hrow : wr.heap[blk]? = some (.cells cur 3 (0, 0))) (hcs : ∀ j, j < n + 1 → cur[j]? = some (.int .i64 (j : Int)))
    (hz : wr.cell? ⟨z, 0, none⟩ = some (.slice (some ⟨b, o, none⟩) q nc)) (hn : ∀ i, i < q → wr.cell? ⟨b, o + i, none⟩ = some (.string (g i))) (hzb : z ≠ blk) (hbb : b ≠ blk) :
    Calls Tryz.prog 36 #[.slice (some ⟨blk, 0, none⟩) (n + 1) (n + 1), .func (.func 37) #[] #[.pointer (some ⟨z, 0, none⟩)]] wr fun e w' => e = .returned (.tuple #[]) ∧ (∀ p, p < n + 1 → w'.cell? ⟨blk, p, none⟩ = some (.int .i64 (osF g n p : Int))) ∧ (∀ j, j ≠ blk → w'.heap[j]? = wr.heap[j]?) ∧ RowKit.Below blk wr w' ∧ w'.heap.size = wr.heap.size := by
  have hH : Holds (encF n) wr blk 0 (idF n) := fun j hj => by
    rw [idF_size] at hj
    rw [idF_get n j hj, Nat.zero_add]
    exact ⟨by rw [cell_of_row wr _ _ _ _ _ hrow, hcs j (by omega)]; rfl, frozen_of_row wr _ _ _ _ hrow⟩
  have hl := lt_of_row hrow
  have hsort := sort_any (cap := n + 1) (g := g) hn12 hnq hz hn hzb hbb (idF n) (idF_size n) hH
  have hsz' := sortF_size g n (idF n)
  have hH2 := holds_putRow (encF n) wr blk 0 (idF n) (sortF g n (idF n)) hH hsz'
  refine hsort.mono ?_
  rintro e w' ⟨rfl, k, rfl⟩
  refine ⟨rfl, fun p hp => ?_, fun j hj => heap_putF _ _ _ _ _ hj, ?_, size_putRow _ _ _ _ _⟩
  · have := (hH2 p (by rw [hsz', idF_size]; omega)).1
    rw [Nat.zero_add] at this
    exact this
  · exact (RowKit.Below.refl _ wr).grown (show wr.grownBy _ (some blk) from ⟨rfl, rfl, rfl, by rw [show ((putRow (encF n) wr blk 0 (sortF g n (idF n))).drewN k).heap.size = wr.heap.size from size_putRow _ _ _ _ _]; exact Nat.le_refl _, fun j _ hne => heap_putF _ _ _ _ _ (fun e => hne (by rw [e]))⟩) (by omega) (fun j hj => by injection hj with hj; omega)
set_option maxRecDepth 100000 in
theorem osF_lt (g : Nat → ByteArray) (n p : Nat) : osF g n p < n + 1 := (((sortF g n (idF n))[p]!)).isLt
end Go.Proofs.YtnnclhmhbmbkfaaGreatDoor.V
