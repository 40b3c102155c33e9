/- A value off the document's cursor (its take): the same as the program takes, or its error. -/
import Derived.Test.YtjmjlijmeahmfaaEqw
import Derived.Test.YtjmjlijmeahmfaaRcu
import Derived.Test.YtjmjlijmeahmfaaTwir
import Derived.Deep.AppendLies
import Derived.Deep.CutRange
import Derived.Deep.CutBlock
import Derived.Deep.DeepCutAuto
namespace Go.Proofs.Ytjmjlijmeahmfaa
open Go.RowKit
def RtakeC (s : ByteArray) (d : Int) (T : Nat → Int → Tak) : Prop := ∀ (w : World) (o : Nat) (e : Int), o ≤ s.size →
  Calls Try.prog 48 #[.agg #[.string s, .int .i64 (o : Int), .int .i64 e], .int .i64 d] w fun r w' => ∃ (A : Ad) (u : Tr) (o' : Nat),
    r = .returned (.tuple #[.agg #[.string s, .int .i64 (o' : Int), .int .i64 (T o e).e], u.val A]) ∧ LiesS (fun k => w.heap.size ≤ k ∧ k < w'.heap.size) w' u A ∧ o' ≤ s.size ∧ ((T o e).e = 0 → o' = (T o e).o ∧ u = (T o e).t) ∧ Below w.heap.size w w'
theorem rows_call3 {w w1 : World} {a b c : Obj} (hb : Below (((w.alloc a).alloc b).alloc c).heap.size (((w.alloc a).alloc b).alloc c) w1) :
    Below w.heap.size w w1 ∧ w1.heap[w.heap.size]? = some a ∧ w1.heap[w.heap.size + 1]? = some b ∧ w1.heap[w.heap.size + 1 + 1]? = some c ∧ w.heap.size + 1 + 1 + 1 ≤ w1.heap.size := by
  have hw : Below w.heap.size w (((w.alloc a).alloc b).alloc c) := (((Below.refl _ w).alloc (Nat.le_refl _) _).alloc (by simp) _).alloc (by simp; omega) _
  have hsz := hb.size
  simp at hsz
  refine ⟨hw.trans (hb.mono (by simp; omega)), ?_, ?_, ?_, by omega⟩
  · rw [hb.block _ (by simp; omega), Below.heap_alloc _ _ _ (by simp; omega), Below.heap_alloc _ _ _ (by simp)]; exact heap_alloc_new _ _
  · rw [hb.block _ (by simp), Below.heap_alloc _ _ _ (by simp)]
    have := heap_alloc_new (w.alloc a) b
    simpa using this
  · rw [hb.block _ (by simp)]
    have := heap_alloc_new ((w.alloc a).alloc b) c
    simpa using this
structure Sw where
  n : Nat
  o : Nat
  e : Int
  b : Bool
  i : Int
  s : ByteArray
def swA (s : ByteArray) (k o : Nat) : Sw :=
  if k = 0 then ⟨0, o, 0, false, 0, ⟨#[]⟩⟩
  else if k = 1 then ⟨0, (boolA s o 0).o, (boolA s o 0).e, (boolA s o 0).v, 0, ⟨#[]⟩⟩
  else if k = 2 then ⟨0, (uintA s o 0).o, (uintA s o 0).e, false, zag (uintA s o 0).v, ⟨#[]⟩⟩
  else if k = 3 ∨ k = 4 then ⟨0, (textA s o 0 1024).o, (textA s o 0 1024).e, false, 0, (textA s o 0 1024).v⟩
  else if k = 5 ∨ k = 6 then ⟨(countA s o 0 32).v, (countA s o 0 32).o, (countA s o 0 32).e, false, 0, ⟨#[]⟩⟩
  else ⟨0, o, 6, false, 0, ⟨#[]⟩⟩
def set3 (w : World) (z : Nat) (a b c : Value) : World := ((w.setCell ⟨z, 0, none⟩ a).setCell ⟨z, 1, none⟩ b).setCell ⟨z, 2, none⟩ c
theorem set3_block (w : World) (z : Nat) (a b c : Value) (k : Nat) (h : k ≠ z) : (set3 w z a b c).heap[k]? = w.heap[k]? := by
  unfold set3
  rw [Below.heap_setCell _ _ _ k (by exact h), Below.heap_setCell _ _ _ k (by exact h), Below.heap_setCell _ _ _ k (by exact h)]
theorem set3_size (w : World) (z : Nat) (a b c : Value) : (set3 w z a b c).heap.size = w.heap.size := by unfold set3; simp
theorem set3_row {w : World} {z : Nat} {t : TypeId} {fr : Nat × Nat} {x y u : Value} (h : w.heap[z]? = some (.cells #[x, y, u] t fr)) (a b c : Value) : (set3 w z a b c).heap[z]? = some (.cells #[a, b, c] t fr) := by
  unfold set3
  rw [row_setCell (k := 2) (row_setCell (k := 1) (row_setCell (k := 0) h a) b) c]
  rfl
structure Rw (w W : World) (z : Nat) (a b c : Value) (zr : Array Value) : Prop where
  r2 : W.heap[w.heap.size]? = some (.cells #[a, b, c] 80 (0, 0))
  r4 : W.heap[w.heap.size + 1]? = some (.cells #[.string ⟨#[]⟩, .int .i64 0, .int .i64 0] 80 (0, 0))
  r5 : W.heap[w.heap.size + 1 + 1]? = some (.cells #[.int .i64 0, .bool false, .int .i64 0, .string ⟨#[]⟩, .slice none 0 0, .slice none 0 0] 33 (0, 0))
  rz : W.heap[z]? = some (.cells zr 33 (0, 0))
  bel : Below w.heap.size w W
  hz : w.heap.size + 1 + 1 + 1 ≤ z ∧ z < W.heap.size
theorem Rw.later {w W W' : World} {z : Nat} {a b c : Value} {zr : Array Value} (h : Rw w W z a b c zr) (hb : Below W.heap.size W W') : Rw w W' z a b c zr where
  r2 := (hb.block _ (lt_of_row h.r2)).trans h.r2
  r4 := (hb.block _ (lt_of_row h.r4)).trans h.r4
  r5 := (hb.block _ (lt_of_row h.r5)).trans h.r5
  rz := (hb.block _ (lt_of_row h.rz)).trans h.rz
  bel := h.bel.trans (hb.mono h.bel.size)
  hz := ⟨h.hz.1, Nat.lt_of_lt_of_le h.hz.2 hb.size⟩
theorem Rw.set3 {w W : World} {z : Nat} {a b c : Value} {zr : Array Value} (h : Rw w W z a b c zr) (a' b' c' : Value) : Rw w (set3 W w.heap.size a' b' c') z a' b' c' zr where
  r2 := set3_row h.r2 a' b' c'
  r4 := (set3_block _ _ _ _ _ _ (by omega)).trans h.r4
  r5 := (set3_block _ _ _ _ _ _ (by omega)).trans h.r5
  rz := (set3_block _ _ _ _ _ _ (by have := h.hz; omega)).trans h.rz
  bel := below_set3 h.bel (Nat.le_refl _) a' b' c'
  hz := ⟨h.hz.1, by rw [set3_size]; exact h.hz.2⟩
theorem Rw.setz {w W : World} {z : Nat} {a b c : Value} {zr : Array Value} (h : Rw w W z a b c zr) (j : Nat) (v : Value) : Rw w (W.setCell ⟨z, j, none⟩ v) z a b c (zr.setIfInBounds j v) where
  r2 := (Below.heap_setCell _ _ _ _ (by show w.heap.size ≠ z; have := h.hz; omega)).trans h.r2
  r4 := (Below.heap_setCell _ _ _ _ (by show w.heap.size + 1 ≠ z; have := h.hz; omega)).trans h.r4
  r5 := (Below.heap_setCell _ _ _ _ (by show w.heap.size + 1 + 1 ≠ z; have := h.hz; omega)).trans h.r5
  rz := row_setCell h.rz v
  bel := h.bel.setCell (by show w.heap.size ≤ z; have := h.hz; omega) v
  hz := ⟨h.hz.1, by simpa using h.hz.2⟩
theorem Rw.set2 {w W : World} {z : Nat} {a b c : Value} {zr : Array Value} (h : Rw w W z a b c zr) (c' : Value) : Rw w (W.setCell ⟨w.heap.size, 2, none⟩ c') z a b c' zr where
  r2 := row_setCell h.r2 c'
  r4 := (Below.heap_setCell _ _ _ _ (by show w.heap.size + 1 ≠ w.heap.size; omega)).trans h.r4
  r5 := (Below.heap_setCell _ _ _ _ (by show w.heap.size + 1 + 1 ≠ w.heap.size; omega)).trans h.r5
  rz := (Below.heap_setCell _ _ _ _ (by show z ≠ w.heap.size; have := h.hz; omega)).trans h.rz
  bel := h.bel.setCell (Nat.le_refl _) c'
  hz := ⟨h.hz.1, by simpa using h.hz.2⟩
theorem Rw.alloc {w W : World} {z : Nat} {a b c : Value} {zr : Array Value} (h : Rw w W z a b c zr) (o : Obj) : Rw w (W.alloc o) z a b c zr := h.later ((Below.refl _ W).alloc (Nat.le_refl _) o)
theorem Rw.grown {w W W' : World} {z : Nat} {a b c : Value} {zr : Array Value} {o : Obj} {v : Value} (h : Rw w W z a b c zr) (hgr : (W.alloc o).grownBy W' v.ownBlock) (hge : ∀ k, v.ownBlock = some k → z + 1 ≤ k) : Rw w W' z a b c zr where
  r2 := far_row hgr hge h.r2 (by have := h.hz; omega)
  r4 := far_row hgr hge h.r4 (by have := h.hz; omega)
  r5 := far_row hgr hge h.r5 (by have := h.hz; omega)
  rz := far_row hgr hge h.rz (by omega)
  bel := (h.bel.alloc h.bel.size o).grown hgr (by have := h.bel.size; simp; omega) (fun k hk => by have := hge k hk; have := h.hz; omega)
  hz := ⟨h.hz.1, by have := hgr.size; have := h.hz; simp at *; omega⟩
theorem node_sw (s : ByteArray) (k o : Nat) (T : Nat → Int → Tak) :
    nodeA s k o T = ⟨.mk (k : Int) (swA s k o).b (swA s k o).i (swA s k o).s (runA s (k == 6) T ⟨[], [], (swA s k o).o, (swA s k o).e⟩ (swA s k o).n).ts.length (fun i => (runA s (k == 6) T ⟨[], [], (swA s k o).o, (swA s k o).e⟩ (swA s k o).n).ts.getD i .no) (runA s (k == 6) T ⟨[], [], (swA s k o).o, (swA s k o).e⟩ (swA s k o).n).ns.length (fun i => (runA s (k == 6) T ⟨[], [], (swA s k o).o, (swA s k o).e⟩ (swA s k o).n).ns.getD i ⟨#[]⟩), (runA s (k == 6) T ⟨[], [], (swA s k o).o, (swA s k o).e⟩ (swA s k o).n).o, (runA s (k == 6) T ⟨[], [], (swA s k o).o, (swA s k o).e⟩ (swA s k o).n).e⟩ := by
  unfold nodeA swA
  by_cases k0 : k = 0
  · subst k0; rfl
  rw [if_neg k0, if_neg k0]
  by_cases k1 : k = 1
  · subst k1; rfl
  rw [if_neg k1, if_neg k1]
  by_cases k2 : k = 2
  · subst k2; rfl
  rw [if_neg k2, if_neg k2]
  by_cases k3 : k = 3 ∨ k = 4
  · rw [if_pos k3, if_pos k3]; rfl
  rw [if_neg k3, if_neg k3]
  by_cases k5 : k = 5 ∨ k = 6
  · rw [if_pos k5, if_pos k5]; rfl
  rw [if_neg k5, if_neg k5]
  rfl
theorem swA_ok {s : ByteArray} (hs : s.size ≤ 4096) {k o : Nat} (ho : o ≤ s.size) : (swA s k o).n ≤ 32 ∧ (swA s k o).o ≤ s.size ∧ (-9223372036854775808 ≤ (swA s k o).i ∧ (swA s k o).i < 9223372036854775808) ∧ (swA s k o).s.size ≤ 4096 := by
  have h0 : -9223372036854775808 ≤ (0 : Int) ∧ (0 : Int) < 9223372036854775808 := by decide
  unfold swA
  split
  · exact ⟨Nat.zero_le _, ho, h0, Nat.zero_le _⟩
  split
  · exact ⟨Nat.zero_le _, boolA_le ho, h0, Nat.zero_le _⟩
  split
  · exact ⟨Nat.zero_le _, uintA_le ho, zag_uintA ho, Nat.zero_le _⟩
  split
  · exact ⟨Nat.zero_le _, textA_le ho, h0, Nat.le_trans textA_size hs⟩
  split
  · exact ⟨countA_v, countA_le ho, h0, Nat.zero_le _⟩
  · exact ⟨Nat.zero_le _, ho, h0, Nat.zero_le _⟩
theorem Rw.ge {w W : World} {z : Nat} {a b c : Value} {zr : Array Value} (h : Rw w W z a b c zr) : w.heap.size + 1 + 1 + 1 ≤ z := h.hz.1
set_option maxRecDepth 100000 in
set_option maxHeartbeats 8000000 in
theorem rtake_in {s : ByteArray} (hs : s.size ≤ 4096) (d : Int) (hd0 : 0 ≤ d) (hd : d ≤ 8) {D : Nat} (hT : RtakeC s (d + 1) (takeA s D)) (w : World) (o : Nat) (ho : o < s.size) (x : UInt8) (hx : s.data.toList.getD o 0 = x) :
    Calls Try.prog 48 #[.agg #[.string s, .int .i64 (o : Int), .int .i64 0], .int .i64 d] w fun r w' => ∃ (A : Ad) (u : Tr) (o' : Nat),
    r = .returned (.tuple #[.agg #[.string s, .int .i64 (o' : Int), .int .i64 (nodeA s x.toNat (o + 1) (takeA s D)).e], u.val A]) ∧ LiesS (fun k => w.heap.size ≤ k ∧ k < w'.heap.size) w' u A ∧ o' ≤ s.size ∧ ((nodeA s x.toNat (o + 1) (takeA s D)).e = 0 → o' = (nodeA s x.toNat (o + 1) (takeA s D)).o ∧ u = (nodeA s x.toNat (o + 1) (takeA s D)).t) ∧ Below w.heap.size w w' := by
  have hA : bytesA s o 0 1 = ⟨⟨#[x]⟩, o + 1, 0⟩ := by unfold bytesA; rw [if_pos rfl, if_neg (by omega), if_neg (by omega), ← hx]; show (⟨s.extract o (o + 1), o + 1, 0⟩ : Ans ByteArray) = _; rw [ext1' s o ho]
  have hby := fun W => rbytes_at s o 0 1 (by omega) hs W
  rw [hA] at hby
  clear hA hx
  obtain ⟨o1, ho1⟩ : ∃ o1 : Nat, o + 1 = o1 := ⟨_, rfl⟩
  rw [ho1] at hby ⊢
  have hle1 : o1 ≤ s.size := by omega
  clear ho1
  obtain ⟨y, hy⟩ : ∃ y : ByteArray, (⟨#[x]⟩ : ByteArray) = y := ⟨_, rfl⟩
  have hys : 0 < y.size := by rw [← hy]; exact Nat.zero_lt_one
  have hy0 : y[0] = x := by subst hy; rfl
  rw [hy] at hby
  clear hy
  have hxl : x.toNat < 256 := x.toNat_lt
  obtain ⟨κ, hκ⟩ : ∃ κ : Nat, x.toNat = κ := ⟨_, rfl⟩
  rw [hκ] at hxl ⊢
  have hw64 : wrap64 (κ : Int) = (κ : Int) := IntWalk.wrap64_in _ (by omega)
  have hd' : ¬ 8 < d := by omega
  go_enter Try.func48, Try.ntmps48
  go_wp2_with fail
  refine (hby _).mono ?_
  rintro e w1 ⟨rfl, hb1⟩
  obtain ⟨B1, r2, r4, r5, hs1⟩ := rows_call3 hb1
  obtain ⟨⟨c0, c1, c2⟩, f0, f1, f2⟩ := row3 r2
  clear hb1 hby
  go_upto_block 0 with fail
  change Code.wp _ _ _ _ ((set3 w1 w.heap.size (.string s) (.int .i64 (o1 : Int)) (.int .i64 0)).alloc (.cells #[.int .i64 (κ : Int), .bool false, .int .i64 0, .string ⟨#[]⟩, .slice none 0 0, .slice none 0 0] 33))
  have hs3 := set3_size w1 w.heap.size (.string s) (.int .i64 (o1 : Int)) (.int .i64 0)
  have hR : Rw w ((set3 w1 w.heap.size (.string s) (.int .i64 (o1 : Int)) (.int .i64 0)).alloc (.cells #[.int .i64 (κ : Int), .bool false, .int .i64 0, .string ⟨#[]⟩, .slice none 0 0, .slice none 0 0] 33)) w1.heap.size (.string s) (.int .i64 (o1 : Int)) (.int .i64 0) #[.int .i64 (κ : Int), .bool false, .int .i64 0, .string ⟨#[]⟩, .slice none 0 0, .slice none 0 0] := by
    refine ⟨?_, ?_, ?_, ?_, ?_, ?_⟩
    · rw [Below.heap_alloc _ _ _ (by rw [hs3]; omega)]; exact set3_row r2 _ _ _
    · rw [Below.heap_alloc _ _ _ (by rw [hs3]; omega), set3_block _ _ _ _ _ _ (by omega)]; exact r4
    · rw [Below.heap_alloc _ _ _ (by rw [hs3]; omega), set3_block _ _ _ _ _ _ (by omega)]; exact r5
    · have := heap_alloc_new (set3 w1 w.heap.size (.string s) (.int .i64 (o1 : Int)) (.int .i64 0)) (.cells #[.int .i64 (κ : Int), .bool false, .int .i64 0, .string ⟨#[]⟩, .slice none 0 0, .slice none 0 0] 33)
      rw [hs3] at this
      exact this
    · exact (below_set3 B1 (Nat.le_refl _) _ _ _).alloc (by simp; omega) _
    · exact ⟨by omega, by simp [hs3]⟩
  obtain ⟨W2, hW2⟩ : ∃ W2, (set3 w1 w.heap.size (.string s) (.int .i64 (o1 : Int)) (.int .i64 0)).alloc (.cells #[.int .i64 (κ : Int), .bool false, .int .i64 0, .string ⟨#[]⟩, .slice none 0 0, .slice none 0 0] 33) = W2 := ⟨_, rfl⟩
  rw [hW2] at hR ⊢
  obtain ⟨z, hz⟩ : ∃ z, w1.heap.size = z := ⟨_, rfl⟩
  rw [hz] at hR ⊢
  clear hW2 hz hs3 B1 r2 r4 r5 hs1 c0 c1 c2 f0 f1 f2 hys hy0
  obtain ⟨q, hq⟩ : ∃ q, swA s κ o1 = q := ⟨_, rfl⟩
  have HQ : Hid (swA s κ o1 = q) := hq
  clear hq
  go_cut [8] (fun c8 wx => c8 = .int .i64 (q.n : Int) ∧ Rw w wx z (.string s) (.int .i64 (q.o : Int)) (.int .i64 q.e) #[.int .i64 (κ : Int), .bool q.b, .int .i64 q.i, .string q.s, .slice none 0 0, .slice none 0 0])
  case first =>
    obtain ⟨⟨c0, c1, c2⟩, f0, f1, f2⟩ := row3 hR.r2
    by_cases k0 : κ = 0
    · have g0 : ((κ : Int) == 0) = true := by simp; omega
      have hqq := HQ.out
      unfold swA at hqq
      rw [if_pos k0] at hqq
      subst hqq
      clear k0
      go_wp2_with fail
      go_meet
      case rel => exact ⟨rfl, hR⟩
    · have g0 : ((κ : Int) == 0) = false := by simp; omega
      by_cases k1 : κ = 1
      · have g1 : ((κ : Int) == 1) = true := by simp; omega
        have hqq := HQ.out
        unfold swA at hqq
        rw [if_neg k0, if_pos k1] at hqq
        subst hqq
        clear HQ k0 k1
        have hc := rbool_at s o1 0 hle1 hs W2
        obtain ⟨y, hy⟩ : ∃ y, boolA s o1 0 = y := ⟨_, rfl⟩
        rw [hy] at hc
        have HY : Hid (boolA s o1 0 = y) := hy
        clear hy
        go_wp2_with fail
        refine hc.mono ?_
        rintro e w3 ⟨rfl, hb3⟩
        have hR3 := hR.later hb3
        clear hb3 c0 c1 c2 f0 f1 f2 hc hR
        obtain ⟨⟨c0, c1, c2⟩, f0, f1, f2⟩ := row3 hR3.r2
        have hR4 := hR3.set3 (.string s) (.int .i64 (y.o : Int)) (.int .i64 y.e)
        have e1 := cell_of_row _ _ 1 _ _ _ hR3.rz
        have f1z := frozen_of_row _ _ 1 _ _ hR3.rz
        have hne : z ≠ w.heap.size := by have := hR3.hz; omega
        have hne2 : w.heap.size ≠ z := hne.symm
        go_wp2_with fail
        go_meet
        case rel =>
          rw [HY.out]
          exact ⟨rfl, hR4.setz 1 (.bool y.v)⟩
      · have g1 : ((κ : Int) == 1) = false := by simp; omega
        by_cases k2 : κ = 2
        · have g2 : ((κ : Int) == 2) = true := by simp; omega
          have hqq := HQ.out
          unfold swA at hqq
          rw [if_neg k0, if_neg k1, if_pos k2] at hqq
          subst hqq
          clear HQ k0 k1 k2
          have hc := rint_at s o1 0 hle1 hs W2
          obtain ⟨y, hy⟩ : ∃ y, uintA s o1 0 = y := ⟨_, rfl⟩
          rw [hy] at hc
          have HY : Hid (uintA s o1 0 = y) := hy
          clear hy
          go_wp2_with fail
          refine hc.mono ?_
          rintro e w3 ⟨rfl, hb3⟩
          have hR3 := hR.later hb3
          clear hb3 c0 c1 c2 f0 f1 f2 hc hR
          obtain ⟨⟨c0, c1, c2⟩, f0, f1, f2⟩ := row3 hR3.r2
          have hR4 := hR3.set3 (.string s) (.int .i64 (y.o : Int)) (.int .i64 y.e)
          have e1 := cell_of_row _ _ 2 _ _ _ hR3.rz
          have f1z := frozen_of_row _ _ 2 _ _ hR3.rz
          have hne : z ≠ w.heap.size := by have := hR3.hz; omega
          have hne2 : w.heap.size ≠ z := hne.symm
          go_wp2_with fail
          go_meet
          case rel =>
            rw [HY.out]
            exact ⟨rfl, hR4.setz 2 (.int .i64 (zag y.v))⟩
        · have g2 : ((κ : Int) == 2) = false := by simp; omega
          by_cases k3 : κ = 3 ∨ κ = 4
          · have g34 : (((κ : Int) == 3) = true) ∨ (((κ : Int) == 3) = false ∧ ((κ : Int) == 4) = true) := by simp; omega
            rcases g34 with g3 | ⟨g3, g4⟩
            · skip
              have hqq := HQ.out
              unfold swA at hqq
              rw [if_neg k0, if_neg k1, if_neg k2, if_pos k3] at hqq
              subst hqq
              clear HQ k0 k1 k2 k3
              have hc := rtext_at s o1 0 1024 hle1 hs W2
              obtain ⟨y, hy⟩ : ∃ y, textA s o1 0 1024 = y := ⟨_, rfl⟩
              rw [hy] at hc
              have HY : Hid (textA s o1 0 1024 = y) := hy
              clear hy
              go_wp2_with fail
              refine hc.mono ?_
              rintro e w3 ⟨rfl, hb3⟩
              have hR3 := hR.later hb3
              clear hb3 c0 c1 c2 f0 f1 f2 hc hR
              obtain ⟨⟨c0, c1, c2⟩, f0, f1, f2⟩ := row3 hR3.r2
              have hR4 := hR3.set3 (.string s) (.int .i64 (y.o : Int)) (.int .i64 y.e)
              have e1 := cell_of_row _ _ 3 _ _ _ hR3.rz
              have f1z := frozen_of_row _ _ 3 _ _ hR3.rz
              have hne : z ≠ w.heap.size := by have := hR3.hz; omega
              have hne2 : w.heap.size ≠ z := hne.symm
              go_wp2_with fail
              go_meet
              case rel =>
                rw [HY.out]
                exact ⟨rfl, hR4.setz 3 (.string y.v)⟩
            · skip
              have hqq := HQ.out
              unfold swA at hqq
              rw [if_neg k0, if_neg k1, if_neg k2, if_pos k3] at hqq
              subst hqq
              clear HQ k0 k1 k2 k3
              have hc := rtext_at s o1 0 1024 hle1 hs W2
              obtain ⟨y, hy⟩ : ∃ y, textA s o1 0 1024 = y := ⟨_, rfl⟩
              rw [hy] at hc
              have HY : Hid (textA s o1 0 1024 = y) := hy
              clear hy
              go_wp2_with fail
              refine hc.mono ?_
              rintro e w3 ⟨rfl, hb3⟩
              have hR3 := hR.later hb3
              clear hb3 c0 c1 c2 f0 f1 f2 hc hR
              obtain ⟨⟨c0, c1, c2⟩, f0, f1, f2⟩ := row3 hR3.r2
              have hR4 := hR3.set3 (.string s) (.int .i64 (y.o : Int)) (.int .i64 y.e)
              have e1 := cell_of_row _ _ 3 _ _ _ hR3.rz
              have f1z := frozen_of_row _ _ 3 _ _ hR3.rz
              have hne : z ≠ w.heap.size := by have := hR3.hz; omega
              have hne2 : w.heap.size ≠ z := hne.symm
              go_wp2_with fail
              go_meet
              case rel =>
                rw [HY.out]
                exact ⟨rfl, hR4.setz 3 (.string y.v)⟩
          · have g3 : ((κ : Int) == 3) = false := by simp; omega
            have g4 : ((κ : Int) == 4) = false := by simp; omega
            by_cases k5 : κ = 5 ∨ κ = 6
            · have g56 : (((κ : Int) == 5) = true) ∨ (((κ : Int) == 5) = false ∧ ((κ : Int) == 6) = true) := by simp; omega
              rcases g56 with g5 | ⟨g5, g6⟩
              · skip
                have hqq := HQ.out
                unfold swA at hqq
                rw [if_neg k0, if_neg k1, if_neg k2, if_neg k3, if_pos k5] at hqq
                subst hqq
                clear HQ k0 k1 k2 k3 k5
                have hc := rcount_at s o1 0 32 hle1 hs (by decide) W2
                obtain ⟨y, hy⟩ : ∃ y, countA s o1 0 32 = y := ⟨_, rfl⟩
                rw [hy] at hc
                have HY : Hid (countA s o1 0 32 = y) := hy
                clear hy
                go_wp2_with fail
                refine hc.mono ?_
                rintro e w3 ⟨rfl, hb3⟩
                have hR3 := hR.later hb3
                clear hb3 c0 c1 c2 f0 f1 f2 hc hR
                obtain ⟨⟨c0, c1, c2⟩, f0, f1, f2⟩ := row3 hR3.r2
                have hR4 := hR3.set3 (.string s) (.int .i64 (y.o : Int)) (.int .i64 y.e)
                have hne : z ≠ w.heap.size := by have := hR3.hz; omega
                have hne2 : w.heap.size ≠ z := hne.symm
                go_wp2_with fail
                go_meet
                case rel =>
                  rw [HY.out]
                  exact ⟨rfl, hR4⟩
              · skip
                have hqq := HQ.out
                unfold swA at hqq
                rw [if_neg k0, if_neg k1, if_neg k2, if_neg k3, if_pos k5] at hqq
                subst hqq
                clear HQ k0 k1 k2 k3 k5
                have hc := rcount_at s o1 0 32 hle1 hs (by decide) W2
                obtain ⟨y, hy⟩ : ∃ y, countA s o1 0 32 = y := ⟨_, rfl⟩
                rw [hy] at hc
                have HY : Hid (countA s o1 0 32 = y) := hy
                clear hy
                go_wp2_with fail
                refine hc.mono ?_
                rintro e w3 ⟨rfl, hb3⟩
                have hR3 := hR.later hb3
                clear hb3 c0 c1 c2 f0 f1 f2 hc hR
                obtain ⟨⟨c0, c1, c2⟩, f0, f1, f2⟩ := row3 hR3.r2
                have hR4 := hR3.set3 (.string s) (.int .i64 (y.o : Int)) (.int .i64 y.e)
                have hne : z ≠ w.heap.size := by have := hR3.hz; omega
                have hne2 : w.heap.size ≠ z := hne.symm
                go_wp2_with fail
                go_meet
                case rel =>
                  rw [HY.out]
                  exact ⟨rfl, hR4⟩
            · have g5 : ((κ : Int) == 5) = false := by simp; omega
              have g6 : ((κ : Int) == 6) = false := by simp; omega
              have hqq := HQ.out
              unfold swA at hqq
              rw [if_neg k0, if_neg k1, if_neg k2, if_neg k3, if_neg k5] at hqq
              subst hqq
              clear HQ k0 k1 k2 k3 k5
              go_wp2_with fail
              go_meet
              case rel => exact ⟨rfl, hR.set2 (.int .i64 6)⟩
  case rest =>
    obtain ⟨rfl, hRc⟩ := hcut
    clear hR
    have hok := swA_ok hs (k := κ) hle1
    have hnd := node_sw s κ o1 (takeA s D)
    rw [HQ.out] at hok hnd
    obtain ⟨hqn, hqo, hqi, hqs⟩ := hok
    obtain ⟨X, hX⟩ : ∃ X : Nat → St, runA s (κ == 6) (takeA s D) ⟨[], [], q.o, q.e⟩ = X := ⟨_, rfl⟩
    have HX0 : Hid (X 0 = ⟨[], [], q.o, q.e⟩) := by show X 0 = _; rw [← hX]; rfl
    have HXs : Hid (∀ i, X (i + 1) = stepA s (κ == 6) (takeA s D) (X i)) := by show ∀ i, _; intro i; rw [← hX]; rfl
    have HXe : Hid (∀ i k, (X i).e ≠ 0 → (X (i + k)).e = (X i).e) := by show ∀ i k, _; intro i k h; rw [← hX] at h ⊢; exact run_err h k
    rw [hX] at hnd
    clear hX
    have HND : Hid (nodeA s κ o1 (takeA s D) = ⟨.mk (κ : Int) q.b q.i q.s (X q.n).ts.length (fun i => (X q.n).ts.getD i .no) (X q.n).ns.length (fun i => (X q.n).ns.getD i ⟨#[]⟩), (X q.n).o, (X q.n).e⟩) := hnd
    clear hnd
    have HT : Hid (RtakeC s (d + 1) (takeA s D)) := hT
    clear hT
    have hdw : IntKind.i64.wrap (d + 1) = d + 1 := by rw [IntKind.wrap_i64]; omega
    obtain ⟨i0, hi, hz0, hz1, hz2⟩ := info_parts info33
    obtain ⟨j0, hj, hy0, hy1, hy2⟩ := info_parts info9
    go_wp2_with fail
    go_loopw [9] (fun c9 wr => ∃ (i : Nat) (v u : Value) (L : List Tr) (l : List ByteArray) (A' : Nat → Ad) (o' : Nat), i ≤ q.n ∧ c9 = .int .i64 (i : Int) ∧ Rw w wr z (.string s) (.int .i64 (o' : Int)) (.int .i64 (X i).e) #[.int .i64 (κ : Int), .bool q.b, .int .i64 q.i, .string q.s, v, u] ∧ o' ≤ s.size ∧ L.length = i ∧ Twir u.ownBlock (z + 1) wr v i (fun j => L.getD j .no) A' ∧ Nms (z + 1) wr u l ∧ (∀ s ∈ l, s.size ≤ maxLen) ∧ l.length ≤ i ∧ ((X i).e = 0 → o' = (X i).o ∧ L = (X i).ts ∧ l = (X i).ns)) (fun c9 _ => q.n - (intOf c9).toNat)
    case atStart =>
      refine ⟨0, .slice none 0 0, .slice none 0 0, [], [], fun _ => ⟨none, 0, none, 0⟩, q.o, by omega, rfl, ?_, hqo, rfl, Twir.start _ _ _ _ _, Nms.start _ _, (fun s hs => by cases hs), Nat.le_refl _, ?_⟩
      · rw [HX0.out]; exact hRc
      · rw [HX0.out]; exact fun _ => ⟨rfl, rfl, rfl⟩
    case round =>
      clear hRc
      obtain ⟨i, v, u, L, l, A', o', hin, rfl, hR, ho', hLl, htw, hnm, hns, hll, hinv⟩ := hrel
      have hge3 := hR.ge
      have hzl := hR.hz.2
      obtain ⟨⟨c0, c1, c2⟩, f0, f1, f2⟩ := row3 hR.r2
      obtain ⟨ei, hei⟩ : ∃ ei, (X i).e = ei := ⟨_, rfl⟩
      rw [hei] at hR hinv c2
      have HEI : Hid ((X i).e = ei) := hei
      clear hei
      by_cases hgo : i < q.n ∧ ei = 0
      · obtain ⟨him, rfl⟩ := hgo
        have him' : (i : Int) < (q.n : Int) := by omega
        obtain ⟨hio, hiL, hil⟩ := hinv rfl
        have HIO : Hid (o' = (X i).o ∧ L = (X i).ts ∧ l = (X i).ns) := ⟨hio, hiL, hil⟩
        clear hinv hio hiL hil
        have e0 := cell_of_row _ _ 0 _ _ _ hR.rz
        have e4 := cell_of_row _ _ 4 _ _ _ hR.rz
        have e5 := cell_of_row _ _ 5 _ _ _ hR.rz
        have hvw : ∀ k, v.ownBlock = some k → z + 1 ≤ k ∧ k < wr.heap.size := fun k hk => ⟨(own_lt htw.own k hk).1, (own_lt htw.own k hk).2.1⟩
        have huw : ∀ k, u.ownBlock = some k → z + 1 ≤ k ∧ k < wr.heap.size := fun k hk => ⟨(own_lt hnm k hk).1, (own_lt hnm k hk).2.1⟩
        by_cases k6 : κ = 6
        · have g6 : ((κ : Int) == 6) = true := by simp; omega
          obtain ⟨tx, htx⟩ : ∃ tx, textA s o' 0 16 = tx := ⟨_, rfl⟩
          have hct := rtext_at s o' 0 16 ho' hs wr
          rw [htx] at hct
          have htxo : tx.o ≤ s.size := by rw [← htx]; exact textA_le ho'
          have htxs : tx.v.size ≤ 4096 := by rw [← htx]; exact Nat.le_trans textA_size hs
          obtain ⟨lq, hlq⟩ : ∃ lq, l ++ [tx.v] = lq := ⟨_, rfl⟩
          have hst : ∀ tk, takeA s D tx.o tx.e = tk → X (i + 1) = ⟨lq, L ++ [tk.t], tk.o, tk.e⟩ := by
            intro tk htk
            have hb6 : (κ == 6) = true := by simp; omega
            have hnA : nameA s true (X i) = tx := by unfold nameA; rw [if_pos rfl, HEI.out, ← HIO.out.1, htx]
            rw [HXs.out, hb6]
            unfold stepA
            rw [hnA, htk, ← HIO.out.2.1, ← HIO.out.2.2, if_pos rfl, hlq]
          have HST : Hid (∀ tk, takeA s D tx.o tx.e = tk → X (i + 1) = ⟨lq, L ++ [tk.t], tk.o, tk.e⟩) := hst
          have HLQ : Hid (l ++ [tx.v] = lq) := hlq
          clear hst k6 htx hlq
          go_wp2_with fail
          refine hct.mono ?_
          rintro e w2 ⟨rfl, hb2⟩
          have hs2 := hb2.size
          have hR2 := (hR.later hb2).alloc (.cells #[.string s, .int .i64 (tx.o : Int), .int .i64 tx.e] 80)
          have ra : (w2.alloc (.cells #[.string s, .int .i64 (tx.o : Int), .int .i64 tx.e] 80)).heap[w2.heap.size]? = some (.cells #[.string s, .int .i64 (tx.o : Int), .int .i64 tx.e] 80 (0, 0)) := heap_alloc_new _ _
          clear c0 c1 c2 f0 f1 f2 e0 e4 e5 hct
          obtain ⟨⟨c0, c1, c2⟩, f0, f1, f2⟩ := row3 hR2.r2
          obtain ⟨⟨a0, a1, a2⟩, _, _, _⟩ := row3 ra
          go_upto_region 27 with fail
          change Code.wp _ _ _ _ (set3 (w2.alloc (.cells #[.string s, .int .i64 (tx.o : Int), .int .i64 tx.e] 80)) w.heap.size (.string s) (.int .i64 (tx.o : Int)) (.int .i64 tx.e))
          have hR5 := hR2.set3 (.string s) (.int .i64 (tx.o : Int)) (.int .i64 tx.e)
          have keep5 : ∀ k, k ≠ w.heap.size → k < w2.heap.size → (set3 (w2.alloc (.cells #[.string s, .int .i64 (tx.o : Int), .int .i64 tx.e] 80)) w.heap.size (.string s) (.int .i64 (tx.o : Int)) (.int .i64 tx.e)).heap[k]? = w2.heap[k]? := fun k h1 h2 => by
            rw [set3_block _ _ _ _ _ _ h1, Below.heap_alloc _ _ _ h2]
          have hs5 : (set3 (w2.alloc (.cells #[.string s, .int .i64 (tx.o : Int), .int .i64 tx.e] 80)) w.heap.size (.string s) (.int .i64 (tx.o : Int)) (.int .i64 tx.e)).heap.size = w2.heap.size + 1 := by rw [set3_size]; simp
          obtain ⟨w5, hw5⟩ : ∃ w5, (set3 (w2.alloc (.cells #[.string s, .int .i64 (tx.o : Int), .int .i64 tx.e] 80)) w.heap.size (.string s) (.int .i64 (tx.o : Int)) (.int .i64 tx.e)) = w5 := ⟨_, rfl⟩
          rw [hw5] at hR5 keep5 hs5 ⊢
          clear hw5 c0 c1 c2 f0 f1 f2 a0 a1 a2 ra hR2
          have htw5 : Twir u.ownBlock (z + 1) w5 v i (fun j => L.getD j .no) A' := htw.kept (by omega) (fun k h1 h2 => (keep5 k (by omega) (by omega)).trans (hb2.block k h2))
          have hnm5 : Nms (z + 1) w5 u l := hnm.kept (fun k h1 h2 => (keep5 k (by omega) (by omega)).trans (hb2.block k h2))
          have HS5 : Hid (w5.heap.size = w2.heap.size + 1) := hs5
          clear hb2 keep5 hR htw hnm hs5
          have e5 := cell_of_row _ _ 5 _ _ _ hR5.rz
          go_upto_region 28 with (at_builtin; refine wpList_append_lies _ (by rfl) (.tmp 94) (.tmp 96) 23 (by rfl) (z + 1) 9 j0 _ 1 16 Try.underlying23 hj hy0 hy1 hy2 (by rfl) (by decide) u l.length _ (by rfl) (World.ownsRow.alloc hnm5 _) ⟨w5.heap.size, 0, none⟩ 1 1 [.string tx.v] (by rfl) (by rfl) (World.news_of_block (heap_alloc_new w5 _)) (by simp [Value.oneCell']) (by decide) (by unfold maxLen; omega) (by omega) (by have := HS5.out; simp; omega) _ rfl ?_; intro g6 cap6 w6 hown6 hgr6 hat6 hlt6; have hR6 := hR5.grown hgr6 (fun k hk => (huw k hk).1); have c56 := cell_of_row _ _ 5 _ _ _ hR6.rz; have f56 := frozen_of_row _ _ 5 _ _ hR6.rz)
          have hs5 := HS5.out
          have hRq0 := hR6.setz 5 (.slice (some ⟨g6, 0, none⟩) (l.length + 1) cap6)
          have hRq : Rw w (w6.setCell ⟨z, 5, none⟩ (.slice (some ⟨g6, 0, none⟩) (l.length + 1) cap6)) z (.string s) (.int .i64 (tx.o : Int)) (.int .i64 tx.e) #[.int .i64 (κ : Int), .bool q.b, .int .i64 q.i, .string q.s, v, (.slice (some ⟨g6, 0, none⟩) (l.length + 1) cap6)] := hRq0
          have hset : ∀ k, z + 1 ≤ k → k < w6.heap.size → (w6.setCell ⟨z, 5, none⟩ (.slice (some ⟨g6, 0, none⟩) (l.length + 1) cap6)).heap[k]? = w6.heap[k]? := fun k hk _ => Below.heap_setCell _ _ _ k (by show k ≠ z; omega)
          have htwa := htw5.kept (w' := w5.alloc (.cells #[.string tx.v] 9)) (by simp) (fun k _ h2 => Below.heap_alloc w5 _ k h2)
          have hnma := hnm5.kept (w' := w5.alloc (.cells #[.string tx.v] 9)) (fun k _ h2 => Below.heap_alloc w5 _ k h2)
          have htwq := (Twir.named (c := l.length + 1) (cap := cap6) htwa hnma hgr6 hat6).kept (w' := w6.setCell ⟨z, 5, none⟩ (.slice (some ⟨g6, 0, none⟩) (l.length + 1) cap6)) (by simp) hset
          have hnmq : Nms (z + 1) (w6.setCell ⟨z, 5, none⟩ (.slice (some ⟨g6, 0, none⟩) (l.length + 1) cap6)) (.slice (some ⟨g6, 0, none⟩) (l.length + 1) cap6) lq := by
            have h1 : Nms (z + 1) w6 (.slice (some ⟨g6, 0, none⟩) (l.length + 1) cap6) (l ++ [tx.v]) := by
              have : strs (l ++ [tx.v]) = strs l ++ [.string tx.v] := by simp [strs]
              unfold Nms
              rw [this, List.length_append]
              exact hown6
            rw [HLQ.out] at h1
            exact h1.kept hset
          have hnsq : ∀ s ∈ lq, s.size ≤ maxLen := fun s hs => by
            rw [← HLQ.out] at hs
            rcases List.mem_append.1 hs with h | h
            · exact hns s h
            · obtain rfl := List.mem_singleton.1 h
              unfold maxLen
              omega
          have hllq : lq.length ≤ i + 1 := by rw [← HLQ.out, List.length_append]; simp; omega
          have hs6 : w5.heap.size + 1 ≤ w6.heap.size := by have := hgr6.size; simpa using this
          obtain ⟨wq, hwq⟩ : ∃ wq, w6.setCell ⟨z, 5, none⟩ (.slice (some ⟨g6, 0, none⟩) (l.length + 1) cap6) = wq := ⟨_, rfl⟩
          have hsq : wq.heap.size = w6.heap.size := by rw [← hwq]; simp
          rw [hwq] at hRq htwq hnmq ⊢
          clear hwq hset htwa hnma hown6 hgr6 hat6 hlt6 hR6 hRq0 c56 f56 hR5 htw5 hnm5 e5
          obtain ⟨uq, huq⟩ : ∃ uq, ((.slice (some ⟨g6, 0, none⟩) (l.length + 1) cap6) : Value) = uq := ⟨_, rfl⟩
          rw [huq] at hRq htwq hnmq
          have hfr := huq
          clear huq
          have hvq : ∀ k, v.ownBlock = some k → z + 1 ≤ k ∧ k < wq.heap.size := fun k hk => ⟨(own_lt htwq.own k hk).1, (own_lt htwq.own k hk).2.1⟩
          have huwq : ∀ k, uq.ownBlock = some k → z + 1 ≤ k ∧ k < wq.heap.size := fun k hk => ⟨(own_lt hnmq k hk).1, (own_lt hnmq k hk).2.1⟩
          have hzq := hRq.hz.2
          obtain ⟨⟨c0, c1, c2⟩, f0, f1, f2⟩ := row3 hRq.r2
          obtain ⟨tk, htk⟩ : ∃ tk, takeA s D tx.o tx.e = tk := ⟨_, rfl⟩
          have hcall := HT.out wq tx.o tx.e htxo
          rw [htk] at hcall
          have HXN : Hid (X (i + 1) = ⟨lq, L ++ [tk.t], tk.o, tk.e⟩) := HST.out tk htk
          clear htk HST
          go_wp2_with fail
          refine hcall.mono ?_
          rintro e w2 ⟨A2, t2, o2, he, hL2, ho2, heq2, hb2⟩
          replace he : e = .returned (.tuple #[.agg #[.string s, .int .i64 (o2 : Int), .int .i64 tk.e], .agg #[.int .i64 t2.k, .bool t2.b, .int .i64 t2.n, .string t2.s, .slice A2.pa t2.m A2.pc, .slice A2.na t2.q A2.nc]]) := he
          subst he
          have HEQ : Hid (tk.e = 0 → o2 = tk.o ∧ t2 = tk.t) := heq2
          clear hcall heq2
          have hs2 := hb2.size
          have hR2 := ((hRq.later hb2).alloc (.cells #[.string s, .int .i64 (o2 : Int), .int .i64 tk.e] 80)).alloc (.cells #[.int .i64 t2.k, .bool t2.b, .int .i64 t2.n, .string t2.s, .slice A2.pa t2.m A2.pc, .slice A2.na t2.q A2.nc] 33)
          have ra : ((w2.alloc (.cells #[.string s, .int .i64 (o2 : Int), .int .i64 tk.e] 80)).alloc (.cells #[.int .i64 t2.k, .bool t2.b, .int .i64 t2.n, .string t2.s, .slice A2.pa t2.m A2.pc, .slice A2.na t2.q A2.nc] 33)).heap[w2.heap.size]? = some (.cells #[.string s, .int .i64 (o2 : Int), .int .i64 tk.e] 80 (0, 0)) := row_alloc (heap_alloc_new _ _) _
          have rb : ((w2.alloc (.cells #[.string s, .int .i64 (o2 : Int), .int .i64 tk.e] 80)).alloc (.cells #[.int .i64 t2.k, .bool t2.b, .int .i64 t2.n, .string t2.s, .slice A2.pa t2.m A2.pc, .slice A2.na t2.q A2.nc] 33)).heap[w2.heap.size + 1]? = some (.cells #[.int .i64 t2.k, .bool t2.b, .int .i64 t2.n, .string t2.s, .slice A2.pa t2.m A2.pc, .slice A2.na t2.q A2.nc] 33 (0, 0)) := by
            have := heap_alloc_new (w2.alloc (.cells #[.string s, .int .i64 (o2 : Int), .int .i64 tk.e] 80)) (.cells #[.int .i64 t2.k, .bool t2.b, .int .i64 t2.n, .string t2.s, .slice A2.pa t2.m A2.pc, .slice A2.na t2.q A2.nc] 33)
            simpa using this
          clear c0 c1 c2 f0 f1 f2
          obtain ⟨⟨c0, c1, c2⟩, f0, f1, f2⟩ := row3 hR2.r2
          obtain ⟨⟨a0, a1, a2⟩, _, _, _⟩ := row3 ra
          go_upto_region 30 with fail
          change Code.wp _ _ _ _ (set3 ((w2.alloc (.cells #[.string s, .int .i64 (o2 : Int), .int .i64 tk.e] 80)).alloc (.cells #[.int .i64 t2.k, .bool t2.b, .int .i64 t2.n, .string t2.s, .slice A2.pa t2.m A2.pc, .slice A2.na t2.q A2.nc] 33)) w.heap.size (.string s) (.int .i64 (o2 : Int)) (.int .i64 tk.e))
          have hR5 := hR2.set3 (.string s) (.int .i64 (o2 : Int)) (.int .i64 tk.e)
          have rb5 := (set3_block _ w.heap.size (.string s) (.int .i64 (o2 : Int)) (.int .i64 tk.e) (w2.heap.size + 1) (by omega)).trans rb
          have keep5 : ∀ k, k ≠ w.heap.size → k < w2.heap.size → (set3 ((w2.alloc (.cells #[.string s, .int .i64 (o2 : Int), .int .i64 tk.e] 80)).alloc (.cells #[.int .i64 t2.k, .bool t2.b, .int .i64 t2.n, .string t2.s, .slice A2.pa t2.m A2.pc, .slice A2.na t2.q A2.nc] 33)) w.heap.size (.string s) (.int .i64 (o2 : Int)) (.int .i64 tk.e)).heap[k]? = w2.heap[k]? := fun k h1 h2 => by
            rw [set3_block _ _ _ _ _ _ h1, Below.heap_alloc _ _ _ (by simp; omega), Below.heap_alloc _ _ _ h2]
          have hs5 : (set3 ((w2.alloc (.cells #[.string s, .int .i64 (o2 : Int), .int .i64 tk.e] 80)).alloc (.cells #[.int .i64 t2.k, .bool t2.b, .int .i64 t2.n, .string t2.s, .slice A2.pa t2.m A2.pc, .slice A2.na t2.q A2.nc] 33)) w.heap.size (.string s) (.int .i64 (o2 : Int)) (.int .i64 tk.e)).heap.size = w2.heap.size + 1 + 1 := by rw [set3_size]; simp
          obtain ⟨w5, hw5⟩ : ∃ w5, set3 ((w2.alloc (.cells #[.string s, .int .i64 (o2 : Int), .int .i64 tk.e] 80)).alloc (.cells #[.int .i64 t2.k, .bool t2.b, .int .i64 t2.n, .string t2.s, .slice A2.pa t2.m A2.pc, .slice A2.na t2.q A2.nc] 33)) w.heap.size (.string s) (.int .i64 (o2 : Int)) (.int .i64 tk.e) = w5 := ⟨_, rfl⟩
          rw [hw5] at hR5 rb5 keep5 hs5 ⊢
          clear hw5 c0 c1 c2 f0 f1 f2 a0 a1 a2 ra rb hR2
          have htw5 : Twir uq.ownBlock (z + 1) w5 v i (fun j => L.getD j .no) A' := htwq.kept (by omega) (fun k h1 h2 => (keep5 k (by omega) (by omega)).trans (hb2.block k h2))
          have hnm5 : Nms (z + 1) w5 uq lq := hnmq.kept (fun k h1 h2 => (keep5 k (by omega) (by omega)).trans (hb2.block k h2))
          have hL5 : LiesS (fun k => wq.heap.size ≤ k ∧ k < w2.heap.size) w5 t2 A2 := LiesS.kept (fun k hk => keep5 k (by omega) hk.2) hL2
          have HS5 : Hid (w5.heap.size = w2.heap.size + 1 + 1) := hs5
          clear hb2 hL2 keep5 hRq htwq hnmq hs5
          have e4 := cell_of_row _ _ 4 _ _ _ hR5.rz
          have b0 := cell_of_row _ _ 0 _ _ _ rb5
          have b1 := cell_of_row _ _ 1 _ _ _ rb5
          have b2 := cell_of_row _ _ 2 _ _ _ rb5
          have b3 := cell_of_row _ _ 3 _ _ _ rb5
          have b4 := cell_of_row _ _ 4 _ _ _ rb5
          have b5 := cell_of_row _ _ 5 _ _ _ rb5
          go_wp2_with (at_builtin; refine wpList_append_lies _ (by rfl) (.tmp 108) (.tmp 110) 31 (by rfl) (z + 1) 33 i0 _ 6 88 Try.underlying31 hi hz0 hz1 hz2 (by rfl) (by decide) v i _ (by rfl) (htw5.own.alloc _) ⟨w5.heap.size, 0, none⟩ 1 1 (t2.cs A2) (by rfl) (by rfl) (World.news_of_block (heap_alloc_new w5 _)) (cs_one t2 A2) (by decide) (by unfold maxLen; omega) (by omega) (by have := HS5.out; simp; omega) _ rfl ?_; intro g6 cap6 w6 hown6 hgr6 hat6 hlt6; have hR6 := hR5.grown hgr6 (fun k hk => (hvq k hk).1); have c46 := cell_of_row _ _ 4 _ _ _ hR6.rz; have f46 := frozen_of_row _ _ 4 _ _ hR6.rz)
          go_roundw
          case rel =>
            have hs5 := HS5.out
            have hR7 := hR6.setz 4 (.slice (some ⟨g6, 0, none⟩) (i + 1) cap6)
            have hT5 := (htw5.congr (T' := fun j => (L ++ [t2]).getD j .no) (fun j hj => (getD_left (by omega)).symm)).kept (w' := w5.alloc (.cells #[.int .i64 t2.k, .bool t2.b, .int .i64 t2.n, .string t2.s, .slice A2.pa t2.m A2.pc, .slice A2.na t2.q A2.nc] 33)) (by simp) (fun k _ h2 => Below.heap_alloc w5 _ k h2)
            have hTi : (L ++ [t2]).getD i .no = t2 := by rw [← hLl]; exact getD_last
            have hstep := Twir.step (wr := wq) (a := A2) hT5 (by simp; omega) (by omega) (fun k hk => (hvq k hk).2) (fun k hk => (huwq k hk).2) (by show LiesS _ _ ((L ++ [t2]).getD i .no) A2; rw [hTi]; exact (LiesS.kept (fun k hk => Below.heap_alloc w5 _ k (by omega)) hL5).up (fun k hk => ⟨hk.1, by simp; omega⟩)) (by
              have e1 : flat i (fun j => ((L ++ [t2]).getD j .no).cs (A' j)) = flat i (fun j => (L.getD j .no).cs (A' j)) := flat_congr (fun j hj => by rw [getD_left (by omega)])
              show w6.ownsRow (z + 1) 33 6 _ (i + 1) (flat i (fun j => ((L ++ [t2]).getD j .no).cs (A' j)) ++ ((L ++ [t2]).getD i .no).cs A2)
              rw [hTi, e1]
              exact hown6) hgr6 hat6
            have hnm6 := Nms.partr (hnm5.kept (w' := w5.alloc (.cells #[.int .i64 t2.k, .bool t2.b, .int .i64 t2.n, .string t2.s, .slice A2.pa t2.m A2.pc, .slice A2.na t2.q A2.nc] 33)) (fun k _ h2 => Below.heap_alloc w5 _ k h2)) hT5.own hgr6
            have hset : ∀ k, z + 1 ≤ k → k < w6.heap.size → (w6.setCell ⟨z, 4, none⟩ (.slice (some ⟨g6, 0, none⟩) (i + 1) cap6)).heap[k]? = w6.heap[k]? := fun k hk _ => Below.heap_setCell _ _ _ k (by show k ≠ z; omega)
            refine ⟨i + 1, _, uq, L ++ [t2], lq, _, o2, by omega, by go_num, ?_, ho2, by simp [hLl], hstep.kept (by simp) hset, hnm6.kept hset, hnsq, by omega, ?_⟩
            · rw [HXN.out]; exact hR7
            · rw [HXN.out]
              intro h0
              obtain ⟨h1, h2⟩ := HEQ.out h0
              exact ⟨h1, by rw [h2], rfl⟩
          case measure => simp [intOf]; omega
        · have g6 : ((κ : Int) == 6) = false := by simp; omega
          have hst : ∀ tk, takeA s D o' 0 = tk → X (i + 1) = ⟨l, L ++ [tk.t], tk.o, tk.e⟩ := by
            intro tk htk
            have hb6 : (κ == 6) = false := by simp; omega
            rw [HXs.out, hb6]
            unfold stepA nameA
            simp only [Bool.false_eq_true, if_false]
            rw [HEI.out, ← HIO.out.1, htk, ← HIO.out.2.1, ← HIO.out.2.2]
          have HST : Hid (∀ tk, takeA s D o' 0 = tk → X (i + 1) = ⟨l, L ++ [tk.t], tk.o, tk.e⟩) := hst
          clear hst k6
          obtain ⟨tk, htk⟩ : ∃ tk, takeA s D o' 0 = tk := ⟨_, rfl⟩
          have hcall := HT.out wr o' 0 ho'
          rw [htk] at hcall
          have HXN : Hid (X (i + 1) = ⟨l, L ++ [tk.t], tk.o, tk.e⟩) := HST.out tk htk
          clear htk HST
          go_wp2_with fail
          refine hcall.mono ?_
          rintro e w2 ⟨A2, t2, o2, he, hL2, ho2, heq2, hb2⟩
          replace he : e = .returned (.tuple #[.agg #[.string s, .int .i64 (o2 : Int), .int .i64 tk.e], .agg #[.int .i64 t2.k, .bool t2.b, .int .i64 t2.n, .string t2.s, .slice A2.pa t2.m A2.pc, .slice A2.na t2.q A2.nc]]) := he
          subst he
          have HEQ : Hid (tk.e = 0 → o2 = tk.o ∧ t2 = tk.t) := heq2
          clear hcall heq2
          have hs2 := hb2.size
          have hR2 := ((hR.later hb2).alloc (.cells #[.string s, .int .i64 (o2 : Int), .int .i64 tk.e] 80)).alloc (.cells #[.int .i64 t2.k, .bool t2.b, .int .i64 t2.n, .string t2.s, .slice A2.pa t2.m A2.pc, .slice A2.na t2.q A2.nc] 33)
          have ra : ((w2.alloc (.cells #[.string s, .int .i64 (o2 : Int), .int .i64 tk.e] 80)).alloc (.cells #[.int .i64 t2.k, .bool t2.b, .int .i64 t2.n, .string t2.s, .slice A2.pa t2.m A2.pc, .slice A2.na t2.q A2.nc] 33)).heap[w2.heap.size]? = some (.cells #[.string s, .int .i64 (o2 : Int), .int .i64 tk.e] 80 (0, 0)) := row_alloc (heap_alloc_new _ _) _
          have rb : ((w2.alloc (.cells #[.string s, .int .i64 (o2 : Int), .int .i64 tk.e] 80)).alloc (.cells #[.int .i64 t2.k, .bool t2.b, .int .i64 t2.n, .string t2.s, .slice A2.pa t2.m A2.pc, .slice A2.na t2.q A2.nc] 33)).heap[w2.heap.size + 1]? = some (.cells #[.int .i64 t2.k, .bool t2.b, .int .i64 t2.n, .string t2.s, .slice A2.pa t2.m A2.pc, .slice A2.na t2.q A2.nc] 33 (0, 0)) := by
            have := heap_alloc_new (w2.alloc (.cells #[.string s, .int .i64 (o2 : Int), .int .i64 tk.e] 80)) (.cells #[.int .i64 t2.k, .bool t2.b, .int .i64 t2.n, .string t2.s, .slice A2.pa t2.m A2.pc, .slice A2.na t2.q A2.nc] 33)
            simpa using this
          clear c0 c1 c2 f0 f1 f2 e0 e4 e5
          obtain ⟨⟨c0, c1, c2⟩, f0, f1, f2⟩ := row3 hR2.r2
          obtain ⟨⟨a0, a1, a2⟩, _, _, _⟩ := row3 ra
          go_upto_region 30 with fail
          change Code.wp _ _ _ _ (set3 ((w2.alloc (.cells #[.string s, .int .i64 (o2 : Int), .int .i64 tk.e] 80)).alloc (.cells #[.int .i64 t2.k, .bool t2.b, .int .i64 t2.n, .string t2.s, .slice A2.pa t2.m A2.pc, .slice A2.na t2.q A2.nc] 33)) w.heap.size (.string s) (.int .i64 (o2 : Int)) (.int .i64 tk.e))
          have hR5 := hR2.set3 (.string s) (.int .i64 (o2 : Int)) (.int .i64 tk.e)
          have rb5 := (set3_block _ w.heap.size (.string s) (.int .i64 (o2 : Int)) (.int .i64 tk.e) (w2.heap.size + 1) (by omega)).trans rb
          have keep5 : ∀ k, k ≠ w.heap.size → k < w2.heap.size → (set3 ((w2.alloc (.cells #[.string s, .int .i64 (o2 : Int), .int .i64 tk.e] 80)).alloc (.cells #[.int .i64 t2.k, .bool t2.b, .int .i64 t2.n, .string t2.s, .slice A2.pa t2.m A2.pc, .slice A2.na t2.q A2.nc] 33)) w.heap.size (.string s) (.int .i64 (o2 : Int)) (.int .i64 tk.e)).heap[k]? = w2.heap[k]? := fun k h1 h2 => by
            rw [set3_block _ _ _ _ _ _ h1, Below.heap_alloc _ _ _ (by simp; omega), Below.heap_alloc _ _ _ h2]
          have hs5 : (set3 ((w2.alloc (.cells #[.string s, .int .i64 (o2 : Int), .int .i64 tk.e] 80)).alloc (.cells #[.int .i64 t2.k, .bool t2.b, .int .i64 t2.n, .string t2.s, .slice A2.pa t2.m A2.pc, .slice A2.na t2.q A2.nc] 33)) w.heap.size (.string s) (.int .i64 (o2 : Int)) (.int .i64 tk.e)).heap.size = w2.heap.size + 1 + 1 := by rw [set3_size]; simp
          obtain ⟨w5, hw5⟩ : ∃ w5, set3 ((w2.alloc (.cells #[.string s, .int .i64 (o2 : Int), .int .i64 tk.e] 80)).alloc (.cells #[.int .i64 t2.k, .bool t2.b, .int .i64 t2.n, .string t2.s, .slice A2.pa t2.m A2.pc, .slice A2.na t2.q A2.nc] 33)) w.heap.size (.string s) (.int .i64 (o2 : Int)) (.int .i64 tk.e) = w5 := ⟨_, rfl⟩
          rw [hw5] at hR5 rb5 keep5 hs5 ⊢
          clear hw5 c0 c1 c2 f0 f1 f2 a0 a1 a2 ra rb hR2
          have htw5 : Twir u.ownBlock (z + 1) w5 v i (fun j => L.getD j .no) A' := htw.kept (by omega) (fun k h1 h2 => (keep5 k (by omega) (by omega)).trans (hb2.block k h2))
          have hnm5 : Nms (z + 1) w5 u l := hnm.kept (fun k h1 h2 => (keep5 k (by omega) (by omega)).trans (hb2.block k h2))
          have hL5 : LiesS (fun k => wr.heap.size ≤ k ∧ k < w2.heap.size) w5 t2 A2 := LiesS.kept (fun k hk => keep5 k (by omega) hk.2) hL2
          have HS5 : Hid (w5.heap.size = w2.heap.size + 1 + 1) := hs5
          clear hb2 hL2 keep5 hR htw hnm hs5
          have e4 := cell_of_row _ _ 4 _ _ _ hR5.rz
          have b0 := cell_of_row _ _ 0 _ _ _ rb5
          have b1 := cell_of_row _ _ 1 _ _ _ rb5
          have b2 := cell_of_row _ _ 2 _ _ _ rb5
          have b3 := cell_of_row _ _ 3 _ _ _ rb5
          have b4 := cell_of_row _ _ 4 _ _ _ rb5
          have b5 := cell_of_row _ _ 5 _ _ _ rb5
          go_wp2_with (at_builtin; refine wpList_append_lies _ (by rfl) (.tmp 108) (.tmp 110) 31 (by rfl) (z + 1) 33 i0 _ 6 88 Try.underlying31 hi hz0 hz1 hz2 (by rfl) (by decide) v i _ (by rfl) (htw5.own.alloc _) ⟨w5.heap.size, 0, none⟩ 1 1 (t2.cs A2) (by rfl) (by rfl) (World.news_of_block (heap_alloc_new w5 _)) (cs_one t2 A2) (by decide) (by unfold maxLen; omega) (by omega) (by have := HS5.out; simp; omega) _ rfl ?_; intro g6 cap6 w6 hown6 hgr6 hat6 hlt6; have hR6 := hR5.grown hgr6 (fun k hk => (hvw k hk).1); have c46 := cell_of_row _ _ 4 _ _ _ hR6.rz; have f46 := frozen_of_row _ _ 4 _ _ hR6.rz)
          go_roundw
          case rel =>
            have hs5 := HS5.out
            have hR7 := hR6.setz 4 (.slice (some ⟨g6, 0, none⟩) (i + 1) cap6)
            have hT5 := (htw5.congr (T' := fun j => (L ++ [t2]).getD j .no) (fun j hj => (getD_left (by omega)).symm)).kept (w' := w5.alloc (.cells #[.int .i64 t2.k, .bool t2.b, .int .i64 t2.n, .string t2.s, .slice A2.pa t2.m A2.pc, .slice A2.na t2.q A2.nc] 33)) (by simp) (fun k _ h2 => Below.heap_alloc w5 _ k h2)
            have hTi : (L ++ [t2]).getD i .no = t2 := by rw [← hLl]; exact getD_last
            have hstep := Twir.step (wr := wr) (a := A2) hT5 (by simp; omega) (by omega) (fun k hk => (hvw k hk).2) (fun k hk => (huw k hk).2) (by show LiesS _ _ ((L ++ [t2]).getD i .no) A2; rw [hTi]; exact (LiesS.kept (fun k hk => Below.heap_alloc w5 _ k (by omega)) hL5).up (fun k hk => ⟨hk.1, by simp; omega⟩)) (by
              have e1 : flat i (fun j => ((L ++ [t2]).getD j .no).cs (A' j)) = flat i (fun j => (L.getD j .no).cs (A' j)) := flat_congr (fun j hj => by rw [getD_left (by omega)])
              show w6.ownsRow (z + 1) 33 6 _ (i + 1) (flat i (fun j => ((L ++ [t2]).getD j .no).cs (A' j)) ++ ((L ++ [t2]).getD i .no).cs A2)
              rw [hTi, e1]
              exact hown6) hgr6 hat6
            have hnm6 := Nms.partr (hnm5.kept (w' := w5.alloc (.cells #[.int .i64 t2.k, .bool t2.b, .int .i64 t2.n, .string t2.s, .slice A2.pa t2.m A2.pc, .slice A2.na t2.q A2.nc] 33)) (fun k _ h2 => Below.heap_alloc w5 _ k h2)) hT5.own hgr6
            have hset : ∀ k, z + 1 ≤ k → k < w6.heap.size → (w6.setCell ⟨z, 4, none⟩ (.slice (some ⟨g6, 0, none⟩) (i + 1) cap6)).heap[k]? = w6.heap[k]? := fun k hk _ => Below.heap_setCell _ _ _ k (by show k ≠ z; omega)
            refine ⟨i + 1, _, u, L ++ [t2], l, _, o2, by omega, by go_num, ?_, ho2, by simp [hLl], hstep.kept (by simp) hset, hnm6.kept hset, hns, by omega, ?_⟩
            · rw [HXN.out]; exact hR7
            · rw [HXN.out]
              intro h0
              obtain ⟨h1, h2⟩ := HEQ.out h0
              exact ⟨h1, by rw [h2], rfl⟩
          case measure => simp [intOf]; omega
      · have hfe : (X q.n).e = ei ∧ (ei = 0 → i = q.n) := by
          by_cases him : i < q.n
          · have h0 : ei ≠ 0 := fun h => hgo ⟨him, h⟩
            refine ⟨?_, fun h => absurd h h0⟩
            have := HXe.out i (q.n - i) (by rw [HEI.out]; exact h0)
            rw [show i + (q.n - i) = q.n by omega, HEI.out] at this
            exact this
          · obtain rfl : i = q.n := by omega
            exact ⟨HEI.out, fun _ => rfl⟩
        have HFE : Hid ((X q.n).e = ei ∧ (ei = 0 → i = q.n)) := hfe
        have HIN : Hid (ei = 0 → o' = (X i).o ∧ L = (X i).ts ∧ l = (X i).ns) := hinv
        clear hfe hinv
        obtain ⟨pa', pc', rfl, hpc, hpp, hlp⟩ := htw.done (S := fun k => z + 1 ≤ k ∧ k < wr.heap.size) (fun k h1 h2 => ⟨h1, h2⟩)
        obtain ⟨na', nc', rfl, hnn⟩ := hnm.done (S := fun k => z + 1 ≤ k ∧ k < wr.heap.size) hns (fun k h1 h2 => ⟨h1, h2⟩)
        have HF : Hid (LiesS (fun k => z + 1 ≤ k ∧ k < wr.heap.size) wr (.mk (κ : Int) q.b q.i q.s i (fun j => L.getD j .no) l.length (fun j => l.getD j ⟨#[]⟩)) ⟨pa', pc', na', nc'⟩) := .mk A' ⟨by omega, by omega⟩ hqi (by unfold maxLen; omega) hpc hpp hlp hnn
        clear htw hnm hns hpc hpp hlp hnn
        have a0 := cell_of_row _ _ 0 _ _ _ hR.rz
        have a1 := cell_of_row _ _ 1 _ _ _ hR.rz
        have a2 := cell_of_row _ _ 2 _ _ _ hR.rz
        have a3 := cell_of_row _ _ 3 _ _ _ hR.rz
        have a4 := cell_of_row _ _ 4 _ _ _ hR.rz
        have a5 := cell_of_row _ _ 5 _ _ _ hR.rz
        obtain ⟨⟨b0, b1, b2⟩, g0, g1, g2⟩ := row3 hR.r4
        have d0 := cell_of_row _ _ 0 _ _ _ hR.r5
        have d1 := cell_of_row _ _ 1 _ _ _ hR.r5
        have d2 := cell_of_row _ _ 2 _ _ _ hR.r5
        have d3 := cell_of_row _ _ 3 _ _ _ hR.r5
        have d4 := cell_of_row _ _ 4 _ _ _ hR.r5
        have d5 := cell_of_row _ _ 5 _ _ _ hR.r5
        have h0 := frozen_of_row _ _ 0 _ _ hR.r5
        have h1 := frozen_of_row _ _ 1 _ _ hR.r5
        have h2 := frozen_of_row _ _ 2 _ _ hR.r5
        have h3 := frozen_of_row _ _ 3 _ _ hR.r5
        have h4 := frozen_of_row _ _ 4 _ _ hR.r5
        have h5 := frozen_of_row _ _ 5 _ _ hR.r5
        have hn1 : w.heap.size + 1 ≠ z := by omega
        have hn2 : w.heap.size + 1 + 1 ≠ z := by omega
        have hn3 : z ≠ w.heap.size + 1 := by omega
        have hn4 : z ≠ w.heap.size + 1 + 1 := by omega
        have hcond : ¬ i < q.n ∨ (i < q.n ∧ ei ≠ 0) := by
          by_cases him : i < q.n
          · exact Or.inr ⟨him, fun h => hgo ⟨him, h⟩⟩
          · exact Or.inl him
        clear hgo
        rcases hcond with hc | ⟨hc, hc2⟩
        · have hc' : ¬ (i : Int) < (q.n : Int) := by omega
          go_wp2_with fail
          go_region
          all_goals
            go_wp2
            change bodyPost _ _ _ _ _ (set6 (set3 wr (w.heap.size + 1) (.string s) (.int .i64 (o' : Int)) (.int .i64 ei)) (w.heap.size + 1 + 1) (.int .i64 (κ : Int)) (.bool q.b) (.int .i64 q.i) (.string q.s) (.slice pa' i pc') (.slice na' l.length nc')).drew
            have hro4 : (set6 (set3 wr (w.heap.size + 1) (.string s) (.int .i64 (o' : Int)) (.int .i64 ei)) (w.heap.size + 1 + 1) (.int .i64 (κ : Int)) (.bool q.b) (.int .i64 q.i) (.string q.s) (.slice pa' i pc') (.slice na' l.length nc')).heap[w.heap.size + 1]? = some (.cells #[.string s, .int .i64 (o' : Int), .int .i64 ei] 80 (0, 0)) := (set6_block (set3 wr (w.heap.size + 1) (.string s) (.int .i64 (o' : Int)) (.int .i64 ei)) (w.heap.size + 1 + 1) (.int .i64 (κ : Int)) (.bool q.b) (.int .i64 q.i) (.string q.s) (.slice pa' i pc') (.slice na' l.length nc') (w.heap.size + 1) (by omega)).trans (set3_row hR.r4 (.string s) (.int .i64 (o' : Int)) (.int .i64 ei))
            have hro5 : (set6 (set3 wr (w.heap.size + 1) (.string s) (.int .i64 (o' : Int)) (.int .i64 ei)) (w.heap.size + 1 + 1) (.int .i64 (κ : Int)) (.bool q.b) (.int .i64 q.i) (.string q.s) (.slice pa' i pc') (.slice na' l.length nc')).heap[w.heap.size + 1 + 1]? = some (.cells #[.int .i64 (κ : Int), .bool q.b, .int .i64 q.i, .string q.s, .slice pa' i pc', .slice na' l.length nc'] 33 (0, 0)) := set6_row ((set3_block wr (w.heap.size + 1) (.string s) (.int .i64 (o' : Int)) (.int .i64 ei) (w.heap.size + 1 + 1) (by omega)).trans hR.r5) (.int .i64 (κ : Int)) (.bool q.b) (.int .i64 q.i) (.string q.s) (.slice pa' i pc') (.slice na' l.length nc')
            have hkeep : ∀ k, z + 1 ≤ k → (set6 (set3 wr (w.heap.size + 1) (.string s) (.int .i64 (o' : Int)) (.int .i64 ei)) (w.heap.size + 1 + 1) (.int .i64 (κ : Int)) (.bool q.b) (.int .i64 q.i) (.string q.s) (.slice pa' i pc') (.slice na' l.length nc')).heap[k]? = wr.heap[k]? := fun k hk => (set6_block (set3 wr (w.heap.size + 1) (.string s) (.int .i64 (o' : Int)) (.int .i64 ei)) (w.heap.size + 1 + 1) (.int .i64 (κ : Int)) (.bool q.b) (.int .i64 q.i) (.string q.s) (.slice pa' i pc') (.slice na' l.length nc') k (by omega)).trans (set3_block wr (w.heap.size + 1) (.string s) (.int .i64 (o' : Int)) (.int .i64 ei) k (by omega))
            have hsz : (set6 (set3 wr (w.heap.size + 1) (.string s) (.int .i64 (o' : Int)) (.int .i64 ei)) (w.heap.size + 1 + 1) (.int .i64 (κ : Int)) (.bool q.b) (.int .i64 q.i) (.string q.s) (.slice pa' i pc') (.slice na' l.length nc')).heap.size = wr.heap.size := (set6_size (set3 wr (w.heap.size + 1) (.string s) (.int .i64 (o' : Int)) (.int .i64 ei)) (w.heap.size + 1 + 1) (.int .i64 (κ : Int)) (.bool q.b) (.int .i64 q.i) (.string q.s) (.slice pa' i pc') (.slice na' l.length nc')).trans (set3_size wr (w.heap.size + 1) (.string s) (.int .i64 (o' : Int)) (.int .i64 ei))
            have hbf : Below w.heap.size w (set6 (set3 wr (w.heap.size + 1) (.string s) (.int .i64 (o' : Int)) (.int .i64 ei)) (w.heap.size + 1 + 1) (.int .i64 (κ : Int)) (.bool q.b) (.int .i64 q.i) (.string q.s) (.slice pa' i pc') (.slice na' l.length nc')) := (set6_below (w := (set3 wr (w.heap.size + 1) (.string s) (.int .i64 (o' : Int)) (.int .i64 ei))) (below_set3 hR.bel (by omega) (.string s) (.int .i64 (o' : Int)) (.int .i64 ei)) (w.heap.size + 1 + 1) (by omega) (.int .i64 (κ : Int)) (.bool q.b) (.int .i64 q.i) (.string q.s) (.slice pa' i pc') (.slice na' l.length nc'))
            obtain ⟨wf, hwf⟩ : ∃ wf, (set6 (set3 wr (w.heap.size + 1) (.string s) (.int .i64 (o' : Int)) (.int .i64 ei)) (w.heap.size + 1 + 1) (.int .i64 (κ : Int)) (.bool q.b) (.int .i64 q.i) (.string q.s) (.slice pa' i pc') (.slice na' l.length nc')) = wf := ⟨_, rfl⟩
            rw [hwf] at hro4 hro5 hkeep hsz hbf ⊢
            clear hwf
            obtain ⟨⟨k0, k1, k2⟩, _, _, _⟩ := row3 (W := wf.drew) hro4
            have v0 := cell_of_row wf.drew _ 0 _ _ _ hro5
            have v1 := cell_of_row wf.drew _ 1 _ _ _ hro5
            have v2 := cell_of_row wf.drew _ 2 _ _ _ hro5
            have v3 := cell_of_row wf.drew _ 3 _ _ _ hro5
            have v4 := cell_of_row wf.drew _ 4 _ _ _ hro5
            have v5 := cell_of_row wf.drew _ 5 _ _ _ hro5
            have hee : (nodeA s κ o1 (takeA s D)).e = ei := by rw [HND.out]; exact HFE.out.1
            refine bodyPost_ret (v := .tuple #[.agg #[.string s, .int .i64 (o' : Int), .int .i64 ei], .agg #[.int .i64 (κ : Int), .bool q.b, .int .i64 q.i, .string q.s, .slice pa' i pc', .slice na' l.length nc']]) (by simp [results, Try.results48, go_sem, k0, k1, k2, v0, v1, v2, v3, v4, v5]) rfl ⟨⟨pa', pc', na', nc'⟩, .mk (κ : Int) q.b q.i q.s i (fun j => L.getD j .no) l.length (fun j => l.getD j ⟨#[]⟩), o', ?_, ?_, ho', ?_, hbf.drew⟩
            · rw [hee]; rfl
            · exact (LiesS.kept (w' := wf.drew) (fun k hk => hkeep k hk.1) HF.out).up (fun k hk => ⟨by omega, by show k < wf.heap.size; omega⟩)
            · rw [hee]
              intro h0
              have hiq := HFE.out.2 h0
              obtain ⟨p1, p2, p3⟩ := HIN.out h0
              rw [HND.out, ← hiq]
              exact ⟨p1, by rw [← p2, ← p3, hLl]⟩
        · have hc' : (i : Int) < (q.n : Int) := by omega
          have hc3 : (ei == 0) = false := by simpa using hc2
          go_wp2_with fail
          go_region
          all_goals
            go_wp2
            change bodyPost _ _ _ _ _ (set6 (set3 wr (w.heap.size + 1) (.string s) (.int .i64 (o' : Int)) (.int .i64 ei)) (w.heap.size + 1 + 1) (.int .i64 (κ : Int)) (.bool q.b) (.int .i64 q.i) (.string q.s) (.slice pa' i pc') (.slice na' l.length nc')).drew
            have hro4 : (set6 (set3 wr (w.heap.size + 1) (.string s) (.int .i64 (o' : Int)) (.int .i64 ei)) (w.heap.size + 1 + 1) (.int .i64 (κ : Int)) (.bool q.b) (.int .i64 q.i) (.string q.s) (.slice pa' i pc') (.slice na' l.length nc')).heap[w.heap.size + 1]? = some (.cells #[.string s, .int .i64 (o' : Int), .int .i64 ei] 80 (0, 0)) := (set6_block (set3 wr (w.heap.size + 1) (.string s) (.int .i64 (o' : Int)) (.int .i64 ei)) (w.heap.size + 1 + 1) (.int .i64 (κ : Int)) (.bool q.b) (.int .i64 q.i) (.string q.s) (.slice pa' i pc') (.slice na' l.length nc') (w.heap.size + 1) (by omega)).trans (set3_row hR.r4 (.string s) (.int .i64 (o' : Int)) (.int .i64 ei))
            have hro5 : (set6 (set3 wr (w.heap.size + 1) (.string s) (.int .i64 (o' : Int)) (.int .i64 ei)) (w.heap.size + 1 + 1) (.int .i64 (κ : Int)) (.bool q.b) (.int .i64 q.i) (.string q.s) (.slice pa' i pc') (.slice na' l.length nc')).heap[w.heap.size + 1 + 1]? = some (.cells #[.int .i64 (κ : Int), .bool q.b, .int .i64 q.i, .string q.s, .slice pa' i pc', .slice na' l.length nc'] 33 (0, 0)) := set6_row ((set3_block wr (w.heap.size + 1) (.string s) (.int .i64 (o' : Int)) (.int .i64 ei) (w.heap.size + 1 + 1) (by omega)).trans hR.r5) (.int .i64 (κ : Int)) (.bool q.b) (.int .i64 q.i) (.string q.s) (.slice pa' i pc') (.slice na' l.length nc')
            have hkeep : ∀ k, z + 1 ≤ k → (set6 (set3 wr (w.heap.size + 1) (.string s) (.int .i64 (o' : Int)) (.int .i64 ei)) (w.heap.size + 1 + 1) (.int .i64 (κ : Int)) (.bool q.b) (.int .i64 q.i) (.string q.s) (.slice pa' i pc') (.slice na' l.length nc')).heap[k]? = wr.heap[k]? := fun k hk => (set6_block (set3 wr (w.heap.size + 1) (.string s) (.int .i64 (o' : Int)) (.int .i64 ei)) (w.heap.size + 1 + 1) (.int .i64 (κ : Int)) (.bool q.b) (.int .i64 q.i) (.string q.s) (.slice pa' i pc') (.slice na' l.length nc') k (by omega)).trans (set3_block wr (w.heap.size + 1) (.string s) (.int .i64 (o' : Int)) (.int .i64 ei) k (by omega))
            have hsz : (set6 (set3 wr (w.heap.size + 1) (.string s) (.int .i64 (o' : Int)) (.int .i64 ei)) (w.heap.size + 1 + 1) (.int .i64 (κ : Int)) (.bool q.b) (.int .i64 q.i) (.string q.s) (.slice pa' i pc') (.slice na' l.length nc')).heap.size = wr.heap.size := (set6_size (set3 wr (w.heap.size + 1) (.string s) (.int .i64 (o' : Int)) (.int .i64 ei)) (w.heap.size + 1 + 1) (.int .i64 (κ : Int)) (.bool q.b) (.int .i64 q.i) (.string q.s) (.slice pa' i pc') (.slice na' l.length nc')).trans (set3_size wr (w.heap.size + 1) (.string s) (.int .i64 (o' : Int)) (.int .i64 ei))
            have hbf : Below w.heap.size w (set6 (set3 wr (w.heap.size + 1) (.string s) (.int .i64 (o' : Int)) (.int .i64 ei)) (w.heap.size + 1 + 1) (.int .i64 (κ : Int)) (.bool q.b) (.int .i64 q.i) (.string q.s) (.slice pa' i pc') (.slice na' l.length nc')) := (set6_below (w := (set3 wr (w.heap.size + 1) (.string s) (.int .i64 (o' : Int)) (.int .i64 ei))) (below_set3 hR.bel (by omega) (.string s) (.int .i64 (o' : Int)) (.int .i64 ei)) (w.heap.size + 1 + 1) (by omega) (.int .i64 (κ : Int)) (.bool q.b) (.int .i64 q.i) (.string q.s) (.slice pa' i pc') (.slice na' l.length nc'))
            obtain ⟨wf, hwf⟩ : ∃ wf, (set6 (set3 wr (w.heap.size + 1) (.string s) (.int .i64 (o' : Int)) (.int .i64 ei)) (w.heap.size + 1 + 1) (.int .i64 (κ : Int)) (.bool q.b) (.int .i64 q.i) (.string q.s) (.slice pa' i pc') (.slice na' l.length nc')) = wf := ⟨_, rfl⟩
            rw [hwf] at hro4 hro5 hkeep hsz hbf ⊢
            clear hwf
            obtain ⟨⟨k0, k1, k2⟩, _, _, _⟩ := row3 (W := wf.drew) hro4
            have v0 := cell_of_row wf.drew _ 0 _ _ _ hro5
            have v1 := cell_of_row wf.drew _ 1 _ _ _ hro5
            have v2 := cell_of_row wf.drew _ 2 _ _ _ hro5
            have v3 := cell_of_row wf.drew _ 3 _ _ _ hro5
            have v4 := cell_of_row wf.drew _ 4 _ _ _ hro5
            have v5 := cell_of_row wf.drew _ 5 _ _ _ hro5
            have hee : (nodeA s κ o1 (takeA s D)).e = ei := by rw [HND.out]; exact HFE.out.1
            refine bodyPost_ret (v := .tuple #[.agg #[.string s, .int .i64 (o' : Int), .int .i64 ei], .agg #[.int .i64 (κ : Int), .bool q.b, .int .i64 q.i, .string q.s, .slice pa' i pc', .slice na' l.length nc']]) (by simp [results, Try.results48, go_sem, k0, k1, k2, v0, v1, v2, v3, v4, v5]) rfl ⟨⟨pa', pc', na', nc'⟩, .mk (κ : Int) q.b q.i q.s i (fun j => L.getD j .no) l.length (fun j => l.getD j ⟨#[]⟩), o', ?_, ?_, ho', ?_, hbf.drew⟩
            · rw [hee]; rfl
            · exact (LiesS.kept (w' := wf.drew) (fun k hk => hkeep k hk.1) HF.out).up (fun k hk => ⟨by omega, by show k < wf.heap.size; omega⟩)
            · rw [hee]
              intro h0
              have hiq := HFE.out.2 h0
              obtain ⟨p1, p2, p3⟩ := HIN.out h0
              rw [HND.out, ← hiq]
              exact ⟨p1, by rw [← p2, ← p3, hLl]⟩
end Go.Proofs.Ytjmjlijmeahmfaa
