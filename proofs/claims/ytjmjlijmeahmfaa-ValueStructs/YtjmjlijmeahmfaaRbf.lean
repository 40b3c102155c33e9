/- The document's order of values (Before, Same): of sound values it is that of their keys. -/
import Derived.Test.YtjmjlijmeahmfaaOrx
import Derived.Test.YtjmjlijmeahmfaaRvls
import Derived.Deep.RegionHeld3
import Derived.Deep.QuietTactic
import Derived.BigQuiet
import Derived.BigGuardPart
namespace Go.Proofs.Ytjmjlijmeahmfaa
open Go.RowKit
def BefC (a b : Tr) : Prop := ∀ (B : Nat) (w : World) (x y : Ad), Lies B w a x → Lies B w b y → B ≤ w.heap.size →
    Calls Try.prog 20 #[a.val x, b.val y] w fun e w' => e = .returned (.bool (decide (cmpT a b < 0))) ∧ Below w.heap.size w w'
theorem decide_cmpI (a b : Int) : decide (cmpI a b < 0) = decide (a < b) := by
  rw [decide_eq_decide]
  unfold cmpI
  repeat' split
  all_goals omega
theorem less_cmp : ∀ a b : List UInt8, Op.bytesLess a b = decide (Lib.compareBytes a b < 0)
  | [], [] => rfl
  | [], _ :: _ => rfl
  | _ :: _, [] => rfl
  | a :: xs, b :: ys => by
    have ih := less_cmp xs ys
    rw [Op.bytesLess, Lib.compareBytes, ih]
    by_cases h1 : a < b
    · rw [if_pos h1]; simp [h1]
    · rw [if_neg h1]
      by_cases h2 : b < a
      · rw [if_pos h2]
        have hne : a ≠ b := fun e => by subst e; exact h1 h2
        simp [h1, hne]
      · rw [if_neg h2]
        have he : a = b := by
          have l1 : ¬ a.toNat < b.toNat := fun h => h1 (UInt8.lt_iff_toNat_lt.mpr h)
          have l2 : ¬ b.toNat < a.toNat := fun h => h2 (UInt8.lt_iff_toNat_lt.mpr h)
          exact UInt8.toNat_inj.mp (by omega)
        simp [he]
set_option maxRecDepth 100000 in
set_option maxHeartbeats 8000000 in
theorem bef_kind {bo : Bool} {n : Int} {s : ByteArray} {m : Nat} {f : Nat → Tr} {q : Nat} {g : Nat → ByteArray} {bo' : Bool} {n' : Int} {s' : ByteArray} {m' : Nat} {f' : Nat → Tr} {q' : Nat} {g' : Nat → ByteArray} {k k' : Int} (hne : k ≠ k') : BefC (Tr.mk k bo n s m f q g) (Tr.mk k' bo' n' s' m' f' q' g') := by
  intro B w x y hL hM hB
  have hlim := hL.lims
  have hlim' := hM.lims
  replace hlim : (-9223372036854775808 ≤ n ∧ n < 9223372036854775808) ∧ Names B w q g x.na x.nc := ⟨hlim.2.1, hlim.2.2.2.2⟩
  replace hlim' : (-9223372036854775808 ≤ n' ∧ n' < 9223372036854775808) ∧ Names B w q' g' y.na y.nc := ⟨hlim'.2.1, hlim'.2.2.2.2⟩
  obtain ⟨pa, pc, na, nc⟩ := x
  obtain ⟨pa', pc', na', nc'⟩ := y
  have hV : (Tr.mk k bo n s m f q g).val ⟨pa, pc, na, nc⟩ = .agg #[.int .i64 k, .bool bo, .int .i64 n, .string s, .slice pa m pc, .slice na q nc] := rfl
  have hV' : (Tr.mk k' bo' n' s' m' f' q' g').val ⟨pa', pc', na', nc'⟩ = .agg #[.int .i64 k', .bool bo', .int .i64 n', .string s', .slice pa' m' pc', .slice na' q' nc'] := rfl
  rw [hV, hV']
  obtain ⟨R, hR⟩ : ∃ R, decide (cmpT (Tr.mk k bo n s m f q g) (Tr.mk k' bo' n' s' m' f' q' g') < 0) = R := ⟨_, rfl⟩
  rw [hR]
  have HR0 : Hid (decide (cmpT (Tr.mk k bo n s m f q g) (Tr.mk k' bo' n' s' m' f' q' g') < 0) = R) := hR
  clear hR hV hV'
  have hbel : Below w.heap.size w ((w.alloc (.cells #[.int .i64 k, .bool bo, .int .i64 n, .string s, .slice pa m pc, .slice na q nc] 33)).alloc (.cells #[.int .i64 k', .bool bo', .int .i64 n', .string s', .slice pa' m' pc', .slice na' q' nc'] 33)) := ((Below.refl _ w).alloc (Nat.le_refl _) _).alloc (by simp) _
  have hrow := (Below.heap_alloc (w.alloc (.cells #[.int .i64 k, .bool bo, .int .i64 n, .string s, .slice pa m pc, .slice na q nc] 33)) (.cells #[.int .i64 k', .bool bo', .int .i64 n', .string s', .slice pa' m' pc', .slice na' q' nc'] 33) w.heap.size (by simp)).trans (fresh_row w #[.int .i64 k, .bool bo, .int .i64 n, .string s, .slice pa m pc, .slice na q nc] 33)
  have hrow' := fresh_row (w.alloc (.cells #[.int .i64 k, .bool bo, .int .i64 n, .string s, .slice pa m pc, .slice na q nc] 33)) #[.int .i64 k', .bool bo', .int .i64 n', .string s', .slice pa' m' pc', .slice na' q' nc'] 33
  have hs1 : (w.alloc (.cells #[.int .i64 k, .bool bo, .int .i64 n, .string s, .slice pa m pc, .slice na q nc] 33)).heap.size = w.heap.size + 1 := by simp
  rw [hs1] at hrow'
  have hs2 : ((w.alloc (.cells #[.int .i64 k, .bool bo, .int .i64 n, .string s, .slice pa m pc, .slice na q nc] 33)).alloc (.cells #[.int .i64 k', .bool bo', .int .i64 n', .string s', .slice pa' m' pc', .slice na' q' nc'] 33)).heap.size = w.heap.size + 1 + 1 := by simp
  obtain ⟨W, hW⟩ : ∃ W, (w.alloc (.cells #[.int .i64 k, .bool bo, .int .i64 n, .string s, .slice pa m pc, .slice na q nc] 33)).alloc (.cells #[.int .i64 k', .bool bo', .int .i64 n', .string s', .slice pa' m' pc', .slice na' q' nc'] 33) = W := ⟨_, rfl⟩
  rw [hW] at hbel hrow hrow' hs2
  clear hs1
  have c0 := cell_of_row W _ 0 _ _ _ hrow
  have c1 := cell_of_row W _ 1 _ _ _ hrow
  have c2 := cell_of_row W _ 2 _ _ _ hrow
  have c3 := cell_of_row W _ 3 _ _ _ hrow
  have c4 := cell_of_row W _ 4 _ _ _ hrow
  have c5 := cell_of_row W _ 5 _ _ _ hrow
  have d0 := cell_of_row W _ 0 _ _ _ hrow'
  have d1 := cell_of_row W _ 1 _ _ _ hrow'
  have d2 := cell_of_row W _ 2 _ _ _ hrow'
  have d3 := cell_of_row W _ 3 _ _ _ hrow'
  have d4 := cell_of_row W _ 4 _ _ _ hrow'
  have d5 := cell_of_row W _ 5 _ _ _ hrow'
  have hne' : (k != k') = true := by simpa using hne
  have HNE : Hid (k ≠ k') := hne
  clear hne
  go_enter Try.func20, Try.ntmps20
  go_wp2
  go_ret
  have e : R = decide (k < k') := by
    rw [← HR0.out]
    rw [cmpT]
    show decide ((if k = k' then _ else cmpI k k') < 0) = _
    rw [if_neg HNE.out]
    exact decide_cmpI _ _
  rw [e]
  exact ⟨rfl, hbel⟩
set_option maxRecDepth 100000 in
set_option maxHeartbeats 8000000 in
theorem bef_0 {bo : Bool} {n : Int} {s : ByteArray} {m : Nat} {f : Nat → Tr} {q : Nat} {g : Nat → ByteArray} {bo' : Bool} {n' : Int} {s' : ByteArray} {m' : Nat} {f' : Nat → Tr} {q' : Nat} {g' : Nat → ByteArray} (hm : m = 0) (hm' : m' = 0) : BefC (Tr.mk 0 bo n s m f q g) (Tr.mk 0 bo' n' s' m' f' q' g') := by
  intro B w x y hL hM hB
  have hz : ¬ (0 : Int) < (m : Int) := by omega
  have HZ : Hid (¬ m < m') := by show ¬ _; omega
  clear hm hm'
  have hlim := hL.lims
  have hlim' := hM.lims
  replace hlim : (-9223372036854775808 ≤ n ∧ n < 9223372036854775808) ∧ Names B w q g x.na x.nc := ⟨hlim.2.1, hlim.2.2.2.2⟩
  replace hlim' : (-9223372036854775808 ≤ n' ∧ n' < 9223372036854775808) ∧ Names B w q' g' y.na y.nc := ⟨hlim'.2.1, hlim'.2.2.2.2⟩
  obtain ⟨pa, pc, na, nc⟩ := x
  obtain ⟨pa', pc', na', nc'⟩ := y
  have hV : (Tr.mk 0 bo n s m f q g).val ⟨pa, pc, na, nc⟩ = .agg #[.int .i64 0, .bool bo, .int .i64 n, .string s, .slice pa m pc, .slice na q nc] := rfl
  have hV' : (Tr.mk 0 bo' n' s' m' f' q' g').val ⟨pa', pc', na', nc'⟩ = .agg #[.int .i64 0, .bool bo', .int .i64 n', .string s', .slice pa' m' pc', .slice na' q' nc'] := rfl
  rw [hV, hV']
  obtain ⟨R, hR⟩ : ∃ R, decide (cmpT (Tr.mk 0 bo n s m f q g) (Tr.mk 0 bo' n' s' m' f' q' g') < 0) = R := ⟨_, rfl⟩
  rw [hR]
  have HR0 : Hid (decide (cmpT (Tr.mk 0 bo n s m f q g) (Tr.mk 0 bo' n' s' m' f' q' g') < 0) = R) := hR
  clear hR hV hV'
  have hbel : Below w.heap.size w ((w.alloc (.cells #[.int .i64 0, .bool bo, .int .i64 n, .string s, .slice pa m pc, .slice na q nc] 33)).alloc (.cells #[.int .i64 0, .bool bo', .int .i64 n', .string s', .slice pa' m' pc', .slice na' q' nc'] 33)) := ((Below.refl _ w).alloc (Nat.le_refl _) _).alloc (by simp) _
  have hrow := (Below.heap_alloc (w.alloc (.cells #[.int .i64 0, .bool bo, .int .i64 n, .string s, .slice pa m pc, .slice na q nc] 33)) (.cells #[.int .i64 0, .bool bo', .int .i64 n', .string s', .slice pa' m' pc', .slice na' q' nc'] 33) w.heap.size (by simp)).trans (fresh_row w #[.int .i64 0, .bool bo, .int .i64 n, .string s, .slice pa m pc, .slice na q nc] 33)
  have hrow' := fresh_row (w.alloc (.cells #[.int .i64 0, .bool bo, .int .i64 n, .string s, .slice pa m pc, .slice na q nc] 33)) #[.int .i64 0, .bool bo', .int .i64 n', .string s', .slice pa' m' pc', .slice na' q' nc'] 33
  have hs1 : (w.alloc (.cells #[.int .i64 0, .bool bo, .int .i64 n, .string s, .slice pa m pc, .slice na q nc] 33)).heap.size = w.heap.size + 1 := by simp
  rw [hs1] at hrow'
  have hs2 : ((w.alloc (.cells #[.int .i64 0, .bool bo, .int .i64 n, .string s, .slice pa m pc, .slice na q nc] 33)).alloc (.cells #[.int .i64 0, .bool bo', .int .i64 n', .string s', .slice pa' m' pc', .slice na' q' nc'] 33)).heap.size = w.heap.size + 1 + 1 := by simp
  obtain ⟨W, hW⟩ : ∃ W, (w.alloc (.cells #[.int .i64 0, .bool bo, .int .i64 n, .string s, .slice pa m pc, .slice na q nc] 33)).alloc (.cells #[.int .i64 0, .bool bo', .int .i64 n', .string s', .slice pa' m' pc', .slice na' q' nc'] 33) = W := ⟨_, rfl⟩
  rw [hW] at hbel hrow hrow' hs2
  clear hs1
  have c0 := cell_of_row W _ 0 _ _ _ hrow
  have c1 := cell_of_row W _ 1 _ _ _ hrow
  have c2 := cell_of_row W _ 2 _ _ _ hrow
  have c3 := cell_of_row W _ 3 _ _ _ hrow
  have c4 := cell_of_row W _ 4 _ _ _ hrow
  have c5 := cell_of_row W _ 5 _ _ _ hrow
  have d0 := cell_of_row W _ 0 _ _ _ hrow'
  have d1 := cell_of_row W _ 1 _ _ _ hrow'
  have d2 := cell_of_row W _ 2 _ _ _ hrow'
  have d3 := cell_of_row W _ 3 _ _ _ hrow'
  have d4 := cell_of_row W _ 4 _ _ _ hrow'
  have d5 := cell_of_row W _ 5 _ _ _ hrow'
  go_enter Try.func20, Try.ntmps20
  go_wp2
  go_loopw [5] (fun c5 wr => c5 = .int .i64 0 ∧ wr = W) (fun _ _ => 0)
  case atStart => exact ⟨rfl, rfl⟩
  case round =>
    obtain ⟨rfl, rfl⟩ := hrel
    go_wp2
    go_ret
    have e : R = decide (m < m') := by
      rw [← HR0.out]
      rw [decide_eq_false HZ.out, cmpT]; rfl
    rw [e]
    exact ⟨rfl, hbel⟩
set_option maxRecDepth 100000 in
set_option maxHeartbeats 8000000 in
theorem bef_1 {bo : Bool} {n : Int} {s : ByteArray} {m : Nat} {f : Nat → Tr} {q : Nat} {g : Nat → ByteArray} {bo' : Bool} {n' : Int} {s' : ByteArray} {m' : Nat} {f' : Nat → Tr} {q' : Nat} {g' : Nat → ByteArray} : BefC (Tr.mk 1 bo n s m f q g) (Tr.mk 1 bo' n' s' m' f' q' g') := by
  intro B w x y hL hM hB
  have hlim := hL.lims
  have hlim' := hM.lims
  replace hlim : (-9223372036854775808 ≤ n ∧ n < 9223372036854775808) ∧ Names B w q g x.na x.nc := ⟨hlim.2.1, hlim.2.2.2.2⟩
  replace hlim' : (-9223372036854775808 ≤ n' ∧ n' < 9223372036854775808) ∧ Names B w q' g' y.na y.nc := ⟨hlim'.2.1, hlim'.2.2.2.2⟩
  obtain ⟨pa, pc, na, nc⟩ := x
  obtain ⟨pa', pc', na', nc'⟩ := y
  have hV : (Tr.mk 1 bo n s m f q g).val ⟨pa, pc, na, nc⟩ = .agg #[.int .i64 1, .bool bo, .int .i64 n, .string s, .slice pa m pc, .slice na q nc] := rfl
  have hV' : (Tr.mk 1 bo' n' s' m' f' q' g').val ⟨pa', pc', na', nc'⟩ = .agg #[.int .i64 1, .bool bo', .int .i64 n', .string s', .slice pa' m' pc', .slice na' q' nc'] := rfl
  rw [hV, hV']
  obtain ⟨R, hR⟩ : ∃ R, decide (cmpT (Tr.mk 1 bo n s m f q g) (Tr.mk 1 bo' n' s' m' f' q' g') < 0) = R := ⟨_, rfl⟩
  rw [hR]
  have HR0 : Hid (decide (cmpT (Tr.mk 1 bo n s m f q g) (Tr.mk 1 bo' n' s' m' f' q' g') < 0) = R) := hR
  clear hR hV hV'
  have hbel : Below w.heap.size w ((w.alloc (.cells #[.int .i64 1, .bool bo, .int .i64 n, .string s, .slice pa m pc, .slice na q nc] 33)).alloc (.cells #[.int .i64 1, .bool bo', .int .i64 n', .string s', .slice pa' m' pc', .slice na' q' nc'] 33)) := ((Below.refl _ w).alloc (Nat.le_refl _) _).alloc (by simp) _
  have hrow := (Below.heap_alloc (w.alloc (.cells #[.int .i64 1, .bool bo, .int .i64 n, .string s, .slice pa m pc, .slice na q nc] 33)) (.cells #[.int .i64 1, .bool bo', .int .i64 n', .string s', .slice pa' m' pc', .slice na' q' nc'] 33) w.heap.size (by simp)).trans (fresh_row w #[.int .i64 1, .bool bo, .int .i64 n, .string s, .slice pa m pc, .slice na q nc] 33)
  have hrow' := fresh_row (w.alloc (.cells #[.int .i64 1, .bool bo, .int .i64 n, .string s, .slice pa m pc, .slice na q nc] 33)) #[.int .i64 1, .bool bo', .int .i64 n', .string s', .slice pa' m' pc', .slice na' q' nc'] 33
  have hs1 : (w.alloc (.cells #[.int .i64 1, .bool bo, .int .i64 n, .string s, .slice pa m pc, .slice na q nc] 33)).heap.size = w.heap.size + 1 := by simp
  rw [hs1] at hrow'
  have hs2 : ((w.alloc (.cells #[.int .i64 1, .bool bo, .int .i64 n, .string s, .slice pa m pc, .slice na q nc] 33)).alloc (.cells #[.int .i64 1, .bool bo', .int .i64 n', .string s', .slice pa' m' pc', .slice na' q' nc'] 33)).heap.size = w.heap.size + 1 + 1 := by simp
  obtain ⟨W, hW⟩ : ∃ W, (w.alloc (.cells #[.int .i64 1, .bool bo, .int .i64 n, .string s, .slice pa m pc, .slice na q nc] 33)).alloc (.cells #[.int .i64 1, .bool bo', .int .i64 n', .string s', .slice pa' m' pc', .slice na' q' nc'] 33) = W := ⟨_, rfl⟩
  rw [hW] at hbel hrow hrow' hs2
  clear hs1
  have c0 := cell_of_row W _ 0 _ _ _ hrow
  have c1 := cell_of_row W _ 1 _ _ _ hrow
  have c2 := cell_of_row W _ 2 _ _ _ hrow
  have c3 := cell_of_row W _ 3 _ _ _ hrow
  have c4 := cell_of_row W _ 4 _ _ _ hrow
  have c5 := cell_of_row W _ 5 _ _ _ hrow
  have d0 := cell_of_row W _ 0 _ _ _ hrow'
  have d1 := cell_of_row W _ 1 _ _ _ hrow'
  have d2 := cell_of_row W _ 2 _ _ _ hrow'
  have d3 := cell_of_row W _ 3 _ _ _ hrow'
  have d4 := cell_of_row W _ 4 _ _ _ hrow'
  have d5 := cell_of_row W _ 5 _ _ _ hrow'
  cases bo with
  | true =>
    go_enter Try.func20, Try.ntmps20
    go_wp2
    go_ret
    have e : R = false := by
      rw [← HR0.out]
      rw [cmpT]; cases bo' <;> rfl
    rw [e]
    exact ⟨rfl, hbel⟩
  | false =>
    go_enter Try.func20, Try.ntmps20
    go_wp2
    go_ret
    have e : R = bo' := by
      rw [← HR0.out]
      rw [cmpT]; cases bo' <;> rfl
    rw [e]
    exact ⟨rfl, hbel⟩
set_option maxRecDepth 100000 in
set_option maxHeartbeats 8000000 in
theorem bef_2 {bo : Bool} {n : Int} {s : ByteArray} {m : Nat} {f : Nat → Tr} {q : Nat} {g : Nat → ByteArray} {bo' : Bool} {n' : Int} {s' : ByteArray} {m' : Nat} {f' : Nat → Tr} {q' : Nat} {g' : Nat → ByteArray} : BefC (Tr.mk 2 bo n s m f q g) (Tr.mk 2 bo' n' s' m' f' q' g') := by
  intro B w x y hL hM hB
  have hlim := hL.lims
  have hlim' := hM.lims
  replace hlim : (-9223372036854775808 ≤ n ∧ n < 9223372036854775808) ∧ Names B w q g x.na x.nc := ⟨hlim.2.1, hlim.2.2.2.2⟩
  replace hlim' : (-9223372036854775808 ≤ n' ∧ n' < 9223372036854775808) ∧ Names B w q' g' y.na y.nc := ⟨hlim'.2.1, hlim'.2.2.2.2⟩
  obtain ⟨pa, pc, na, nc⟩ := x
  obtain ⟨pa', pc', na', nc'⟩ := y
  have hV : (Tr.mk 2 bo n s m f q g).val ⟨pa, pc, na, nc⟩ = .agg #[.int .i64 2, .bool bo, .int .i64 n, .string s, .slice pa m pc, .slice na q nc] := rfl
  have hV' : (Tr.mk 2 bo' n' s' m' f' q' g').val ⟨pa', pc', na', nc'⟩ = .agg #[.int .i64 2, .bool bo', .int .i64 n', .string s', .slice pa' m' pc', .slice na' q' nc'] := rfl
  rw [hV, hV']
  obtain ⟨R, hR⟩ : ∃ R, decide (cmpT (Tr.mk 2 bo n s m f q g) (Tr.mk 2 bo' n' s' m' f' q' g') < 0) = R := ⟨_, rfl⟩
  rw [hR]
  have HR0 : Hid (decide (cmpT (Tr.mk 2 bo n s m f q g) (Tr.mk 2 bo' n' s' m' f' q' g') < 0) = R) := hR
  clear hR hV hV'
  have hbel : Below w.heap.size w ((w.alloc (.cells #[.int .i64 2, .bool bo, .int .i64 n, .string s, .slice pa m pc, .slice na q nc] 33)).alloc (.cells #[.int .i64 2, .bool bo', .int .i64 n', .string s', .slice pa' m' pc', .slice na' q' nc'] 33)) := ((Below.refl _ w).alloc (Nat.le_refl _) _).alloc (by simp) _
  have hrow := (Below.heap_alloc (w.alloc (.cells #[.int .i64 2, .bool bo, .int .i64 n, .string s, .slice pa m pc, .slice na q nc] 33)) (.cells #[.int .i64 2, .bool bo', .int .i64 n', .string s', .slice pa' m' pc', .slice na' q' nc'] 33) w.heap.size (by simp)).trans (fresh_row w #[.int .i64 2, .bool bo, .int .i64 n, .string s, .slice pa m pc, .slice na q nc] 33)
  have hrow' := fresh_row (w.alloc (.cells #[.int .i64 2, .bool bo, .int .i64 n, .string s, .slice pa m pc, .slice na q nc] 33)) #[.int .i64 2, .bool bo', .int .i64 n', .string s', .slice pa' m' pc', .slice na' q' nc'] 33
  have hs1 : (w.alloc (.cells #[.int .i64 2, .bool bo, .int .i64 n, .string s, .slice pa m pc, .slice na q nc] 33)).heap.size = w.heap.size + 1 := by simp
  rw [hs1] at hrow'
  have hs2 : ((w.alloc (.cells #[.int .i64 2, .bool bo, .int .i64 n, .string s, .slice pa m pc, .slice na q nc] 33)).alloc (.cells #[.int .i64 2, .bool bo', .int .i64 n', .string s', .slice pa' m' pc', .slice na' q' nc'] 33)).heap.size = w.heap.size + 1 + 1 := by simp
  obtain ⟨W, hW⟩ : ∃ W, (w.alloc (.cells #[.int .i64 2, .bool bo, .int .i64 n, .string s, .slice pa m pc, .slice na q nc] 33)).alloc (.cells #[.int .i64 2, .bool bo', .int .i64 n', .string s', .slice pa' m' pc', .slice na' q' nc'] 33) = W := ⟨_, rfl⟩
  rw [hW] at hbel hrow hrow' hs2
  clear hs1
  have c0 := cell_of_row W _ 0 _ _ _ hrow
  have c1 := cell_of_row W _ 1 _ _ _ hrow
  have c2 := cell_of_row W _ 2 _ _ _ hrow
  have c3 := cell_of_row W _ 3 _ _ _ hrow
  have c4 := cell_of_row W _ 4 _ _ _ hrow
  have c5 := cell_of_row W _ 5 _ _ _ hrow
  have d0 := cell_of_row W _ 0 _ _ _ hrow'
  have d1 := cell_of_row W _ 1 _ _ _ hrow'
  have d2 := cell_of_row W _ 2 _ _ _ hrow'
  have d3 := cell_of_row W _ 3 _ _ _ hrow'
  have d4 := cell_of_row W _ 4 _ _ _ hrow'
  have d5 := cell_of_row W _ 5 _ _ _ hrow'
  go_enter Try.func20, Try.ntmps20
  go_wp2
  go_ret
  have e : R = decide (n < n') := by
    rw [← HR0.out]
    rw [cmpT]
    exact decide_cmpI n n'
  rw [e]
  exact ⟨rfl, hbel⟩
set_option maxRecDepth 100000 in
set_option maxHeartbeats 8000000 in
theorem bef_3 {bo : Bool} {n : Int} {s : ByteArray} {m : Nat} {f : Nat → Tr} {q : Nat} {g : Nat → ByteArray} {bo' : Bool} {n' : Int} {s' : ByteArray} {m' : Nat} {f' : Nat → Tr} {q' : Nat} {g' : Nat → ByteArray} : BefC (Tr.mk 3 bo n s m f q g) (Tr.mk 3 bo' n' s' m' f' q' g') := by
  intro B w x y hL hM hB
  have hlim := hL.lims
  have hlim' := hM.lims
  replace hlim : (-9223372036854775808 ≤ n ∧ n < 9223372036854775808) ∧ Names B w q g x.na x.nc := ⟨hlim.2.1, hlim.2.2.2.2⟩
  replace hlim' : (-9223372036854775808 ≤ n' ∧ n' < 9223372036854775808) ∧ Names B w q' g' y.na y.nc := ⟨hlim'.2.1, hlim'.2.2.2.2⟩
  obtain ⟨pa, pc, na, nc⟩ := x
  obtain ⟨pa', pc', na', nc'⟩ := y
  have hV : (Tr.mk 3 bo n s m f q g).val ⟨pa, pc, na, nc⟩ = .agg #[.int .i64 3, .bool bo, .int .i64 n, .string s, .slice pa m pc, .slice na q nc] := rfl
  have hV' : (Tr.mk 3 bo' n' s' m' f' q' g').val ⟨pa', pc', na', nc'⟩ = .agg #[.int .i64 3, .bool bo', .int .i64 n', .string s', .slice pa' m' pc', .slice na' q' nc'] := rfl
  rw [hV, hV']
  obtain ⟨R, hR⟩ : ∃ R, decide (cmpT (Tr.mk 3 bo n s m f q g) (Tr.mk 3 bo' n' s' m' f' q' g') < 0) = R := ⟨_, rfl⟩
  rw [hR]
  have HR0 : Hid (decide (cmpT (Tr.mk 3 bo n s m f q g) (Tr.mk 3 bo' n' s' m' f' q' g') < 0) = R) := hR
  clear hR hV hV'
  have hbel : Below w.heap.size w ((w.alloc (.cells #[.int .i64 3, .bool bo, .int .i64 n, .string s, .slice pa m pc, .slice na q nc] 33)).alloc (.cells #[.int .i64 3, .bool bo', .int .i64 n', .string s', .slice pa' m' pc', .slice na' q' nc'] 33)) := ((Below.refl _ w).alloc (Nat.le_refl _) _).alloc (by simp) _
  have hrow := (Below.heap_alloc (w.alloc (.cells #[.int .i64 3, .bool bo, .int .i64 n, .string s, .slice pa m pc, .slice na q nc] 33)) (.cells #[.int .i64 3, .bool bo', .int .i64 n', .string s', .slice pa' m' pc', .slice na' q' nc'] 33) w.heap.size (by simp)).trans (fresh_row w #[.int .i64 3, .bool bo, .int .i64 n, .string s, .slice pa m pc, .slice na q nc] 33)
  have hrow' := fresh_row (w.alloc (.cells #[.int .i64 3, .bool bo, .int .i64 n, .string s, .slice pa m pc, .slice na q nc] 33)) #[.int .i64 3, .bool bo', .int .i64 n', .string s', .slice pa' m' pc', .slice na' q' nc'] 33
  have hs1 : (w.alloc (.cells #[.int .i64 3, .bool bo, .int .i64 n, .string s, .slice pa m pc, .slice na q nc] 33)).heap.size = w.heap.size + 1 := by simp
  rw [hs1] at hrow'
  have hs2 : ((w.alloc (.cells #[.int .i64 3, .bool bo, .int .i64 n, .string s, .slice pa m pc, .slice na q nc] 33)).alloc (.cells #[.int .i64 3, .bool bo', .int .i64 n', .string s', .slice pa' m' pc', .slice na' q' nc'] 33)).heap.size = w.heap.size + 1 + 1 := by simp
  obtain ⟨W, hW⟩ : ∃ W, (w.alloc (.cells #[.int .i64 3, .bool bo, .int .i64 n, .string s, .slice pa m pc, .slice na q nc] 33)).alloc (.cells #[.int .i64 3, .bool bo', .int .i64 n', .string s', .slice pa' m' pc', .slice na' q' nc'] 33) = W := ⟨_, rfl⟩
  rw [hW] at hbel hrow hrow' hs2
  clear hs1
  have c0 := cell_of_row W _ 0 _ _ _ hrow
  have c1 := cell_of_row W _ 1 _ _ _ hrow
  have c2 := cell_of_row W _ 2 _ _ _ hrow
  have c3 := cell_of_row W _ 3 _ _ _ hrow
  have c4 := cell_of_row W _ 4 _ _ _ hrow
  have c5 := cell_of_row W _ 5 _ _ _ hrow
  have d0 := cell_of_row W _ 0 _ _ _ hrow'
  have d1 := cell_of_row W _ 1 _ _ _ hrow'
  have d2 := cell_of_row W _ 2 _ _ _ hrow'
  have d3 := cell_of_row W _ 3 _ _ _ hrow'
  have d4 := cell_of_row W _ 4 _ _ _ hrow'
  have d5 := cell_of_row W _ 5 _ _ _ hrow'
  go_enter Try.func20, Try.ntmps20
  go_wp2
  go_ret
  have e : R = Op.bytesLess s.toList s'.toList := by
    rw [← HR0.out]
    rw [cmpT, Lib.toList_data, Lib.toList_data, less_cmp]
    rfl
  rw [e]
  exact ⟨rfl, hbel⟩
set_option maxRecDepth 100000 in
set_option maxHeartbeats 8000000 in
theorem bef_4 {bo : Bool} {n : Int} {s : ByteArray} {m : Nat} {f : Nat → Tr} {q : Nat} {g : Nat → ByteArray} {bo' : Bool} {n' : Int} {s' : ByteArray} {m' : Nat} {f' : Nat → Tr} {q' : Nat} {g' : Nat → ByteArray} : BefC (Tr.mk 4 bo n s m f q g) (Tr.mk 4 bo' n' s' m' f' q' g') := by
  intro B w x y hL hM hB
  have hlim := hL.lims
  have hlim' := hM.lims
  replace hlim : (-9223372036854775808 ≤ n ∧ n < 9223372036854775808) ∧ Names B w q g x.na x.nc := ⟨hlim.2.1, hlim.2.2.2.2⟩
  replace hlim' : (-9223372036854775808 ≤ n' ∧ n' < 9223372036854775808) ∧ Names B w q' g' y.na y.nc := ⟨hlim'.2.1, hlim'.2.2.2.2⟩
  obtain ⟨pa, pc, na, nc⟩ := x
  obtain ⟨pa', pc', na', nc'⟩ := y
  have hV : (Tr.mk 4 bo n s m f q g).val ⟨pa, pc, na, nc⟩ = .agg #[.int .i64 4, .bool bo, .int .i64 n, .string s, .slice pa m pc, .slice na q nc] := rfl
  have hV' : (Tr.mk 4 bo' n' s' m' f' q' g').val ⟨pa', pc', na', nc'⟩ = .agg #[.int .i64 4, .bool bo', .int .i64 n', .string s', .slice pa' m' pc', .slice na' q' nc'] := rfl
  rw [hV, hV']
  obtain ⟨R, hR⟩ : ∃ R, decide (cmpT (Tr.mk 4 bo n s m f q g) (Tr.mk 4 bo' n' s' m' f' q' g') < 0) = R := ⟨_, rfl⟩
  rw [hR]
  have HR0 : Hid (decide (cmpT (Tr.mk 4 bo n s m f q g) (Tr.mk 4 bo' n' s' m' f' q' g') < 0) = R) := hR
  clear hR hV hV'
  have hbel : Below w.heap.size w ((w.alloc (.cells #[.int .i64 4, .bool bo, .int .i64 n, .string s, .slice pa m pc, .slice na q nc] 33)).alloc (.cells #[.int .i64 4, .bool bo', .int .i64 n', .string s', .slice pa' m' pc', .slice na' q' nc'] 33)) := ((Below.refl _ w).alloc (Nat.le_refl _) _).alloc (by simp) _
  have hrow := (Below.heap_alloc (w.alloc (.cells #[.int .i64 4, .bool bo, .int .i64 n, .string s, .slice pa m pc, .slice na q nc] 33)) (.cells #[.int .i64 4, .bool bo', .int .i64 n', .string s', .slice pa' m' pc', .slice na' q' nc'] 33) w.heap.size (by simp)).trans (fresh_row w #[.int .i64 4, .bool bo, .int .i64 n, .string s, .slice pa m pc, .slice na q nc] 33)
  have hrow' := fresh_row (w.alloc (.cells #[.int .i64 4, .bool bo, .int .i64 n, .string s, .slice pa m pc, .slice na q nc] 33)) #[.int .i64 4, .bool bo', .int .i64 n', .string s', .slice pa' m' pc', .slice na' q' nc'] 33
  have hs1 : (w.alloc (.cells #[.int .i64 4, .bool bo, .int .i64 n, .string s, .slice pa m pc, .slice na q nc] 33)).heap.size = w.heap.size + 1 := by simp
  rw [hs1] at hrow'
  have hs2 : ((w.alloc (.cells #[.int .i64 4, .bool bo, .int .i64 n, .string s, .slice pa m pc, .slice na q nc] 33)).alloc (.cells #[.int .i64 4, .bool bo', .int .i64 n', .string s', .slice pa' m' pc', .slice na' q' nc'] 33)).heap.size = w.heap.size + 1 + 1 := by simp
  obtain ⟨W, hW⟩ : ∃ W, (w.alloc (.cells #[.int .i64 4, .bool bo, .int .i64 n, .string s, .slice pa m pc, .slice na q nc] 33)).alloc (.cells #[.int .i64 4, .bool bo', .int .i64 n', .string s', .slice pa' m' pc', .slice na' q' nc'] 33) = W := ⟨_, rfl⟩
  rw [hW] at hbel hrow hrow' hs2
  clear hs1
  have c0 := cell_of_row W _ 0 _ _ _ hrow
  have c1 := cell_of_row W _ 1 _ _ _ hrow
  have c2 := cell_of_row W _ 2 _ _ _ hrow
  have c3 := cell_of_row W _ 3 _ _ _ hrow
  have c4 := cell_of_row W _ 4 _ _ _ hrow
  have c5 := cell_of_row W _ 5 _ _ _ hrow
  have d0 := cell_of_row W _ 0 _ _ _ hrow'
  have d1 := cell_of_row W _ 1 _ _ _ hrow'
  have d2 := cell_of_row W _ 2 _ _ _ hrow'
  have d3 := cell_of_row W _ 3 _ _ _ hrow'
  have d4 := cell_of_row W _ 4 _ _ _ hrow'
  have d5 := cell_of_row W _ 5 _ _ _ hrow'
  go_enter Try.func20, Try.ntmps20
  go_wp2
  go_ret
  have e : R = Op.bytesLess s.toList s'.toList := by
    rw [← HR0.out]
    rw [cmpT, Lib.toList_data, Lib.toList_data, less_cmp]
    rfl
  rw [e]
  exact ⟨rfl, hbel⟩
set_option maxRecDepth 100000 in
set_option maxHeartbeats 8000000 in
theorem bef_5 {bo : Bool} {n : Int} {s : ByteArray} {m : Nat} {f : Nat → Tr} {q : Nat} {g : Nat → ByteArray} {bo' : Bool} {n' : Int} {s' : ByteArray} {m' : Nat} {f' : Nat → Tr} {q' : Nat} {g' : Nat → ByteArray} {d d' : Int} (hm32 : m ≤ 32) (hS : ∀ i, i < m → soundT (f i) d = 0) (hS' : ∀ i, i < m' → soundT (f' i) d' = 0) (hq : q = 0) (hq' : q' = 0) (ih : ∀ i, i < m → i < m' → BefC (f i) (f' i) ∧ BefC (f' i) (f i)) : BefC (Tr.mk 5 bo n s m f q g) (Tr.mk 5 bo' n' s' m' f' q' g') := by
  intro B w x y hL hM hB
  obtain ⟨A, hp, hr⟩ := hL.part
  obtain ⟨A', hp', hr'⟩ := hM.part
  have hlim := hL.lims
  have hlim' := hM.lims
  replace hlim : (-9223372036854775808 ≤ n ∧ n < 9223372036854775808) ∧ Names B w q g x.na x.nc := ⟨hlim.2.1, hlim.2.2.2.2⟩
  replace hlim' : (-9223372036854775808 ≤ n' ∧ n' < 9223372036854775808) ∧ Names B w q' g' y.na y.nc := ⟨hlim'.2.1, hlim'.2.2.2.2⟩
  obtain ⟨pa, pc, na, nc⟩ := x
  obtain ⟨pa', pc', na', nc'⟩ := y
  have hV : (Tr.mk 5 bo n s m f q g).val ⟨pa, pc, na, nc⟩ = .agg #[.int .i64 5, .bool bo, .int .i64 n, .string s, .slice pa m pc, .slice na q nc] := rfl
  have hV' : (Tr.mk 5 bo' n' s' m' f' q' g').val ⟨pa', pc', na', nc'⟩ = .agg #[.int .i64 5, .bool bo', .int .i64 n', .string s', .slice pa' m' pc', .slice na' q' nc'] := rfl
  rw [hV, hV']
  obtain ⟨R, hR⟩ : ∃ R, decide (cmpT (Tr.mk 5 bo n s m f q g) (Tr.mk 5 bo' n' s' m' f' q' g') < 0) = R := ⟨_, rfl⟩
  rw [hR]
  have HR0 : Hid (decide (cmpT (Tr.mk 5 bo n s m f q g) (Tr.mk 5 bo' n' s' m' f' q' g') < 0) = R) := hR
  clear hR hV hV'
  obtain ⟨F, hF⟩ : ∃ F, cmpF q q' g g' (fun i => cmpT (f i) (f' i)) = F := ⟨_, rfl⟩
  have HRW : Hid (decide (lexI m m' F < 0) = R) := by
    show _ = _
    rw [← HR0.out, ← hF, cmpT]
    rfl
  have HF : Hid (∀ i, F i = cmpT (f i) (f' i)) := by
    show ∀ i, _
    intro i
    rw [← hF]
    unfold cmpF
    rw [if_neg (fun h => by have := h.1; omega)]
  clear hF
  have HI : Hid (∀ i, i < m → i < m' → BefC (f i) (f' i) ∧ BefC (f' i) (f i)) := ih
  have HS : Hid (∀ i, i < m → soundT (f i) d = 0) := hS
  have HS' : Hid (∀ i, i < m' → soundT (f' i) d' = 0) := hS'
  have HP : Hid (0 < m → ∃ b o, pa = some ⟨b, o, none⟩ ∧ b < B ∧ ∀ i, i < m → At6 w b (o + i * 6) (f i) (A i)) := hp
  have HR : Hid (∀ i, i < m → Lies B w (f i) (A i)) := hr
  have HP' : Hid (0 < m' → ∃ b o, pa' = some ⟨b, o, none⟩ ∧ b < B ∧ ∀ i, i < m' → At6 w b (o + i * 6) (f' i) (A' i)) := hp'
  have HR' : Hid (∀ i, i < m' → Lies B w (f' i) (A' i)) := hr'
  clear hq hq'
  clear ih hS hS' hp hr hp' hr' hlim hlim' HR0
  have hbel : Below w.heap.size w ((w.alloc (.cells #[.int .i64 5, .bool bo, .int .i64 n, .string s, .slice pa m pc, .slice na q nc] 33)).alloc (.cells #[.int .i64 5, .bool bo', .int .i64 n', .string s', .slice pa' m' pc', .slice na' q' nc'] 33)) := ((Below.refl _ w).alloc (Nat.le_refl _) _).alloc (by simp) _
  have hrow := (Below.heap_alloc (w.alloc (.cells #[.int .i64 5, .bool bo, .int .i64 n, .string s, .slice pa m pc, .slice na q nc] 33)) (.cells #[.int .i64 5, .bool bo', .int .i64 n', .string s', .slice pa' m' pc', .slice na' q' nc'] 33) w.heap.size (by simp)).trans (fresh_row w #[.int .i64 5, .bool bo, .int .i64 n, .string s, .slice pa m pc, .slice na q nc] 33)
  have hrow' := fresh_row (w.alloc (.cells #[.int .i64 5, .bool bo, .int .i64 n, .string s, .slice pa m pc, .slice na q nc] 33)) #[.int .i64 5, .bool bo', .int .i64 n', .string s', .slice pa' m' pc', .slice na' q' nc'] 33
  have hs1 : (w.alloc (.cells #[.int .i64 5, .bool bo, .int .i64 n, .string s, .slice pa m pc, .slice na q nc] 33)).heap.size = w.heap.size + 1 := by simp
  rw [hs1] at hrow'
  have hs2 : ((w.alloc (.cells #[.int .i64 5, .bool bo, .int .i64 n, .string s, .slice pa m pc, .slice na q nc] 33)).alloc (.cells #[.int .i64 5, .bool bo', .int .i64 n', .string s', .slice pa' m' pc', .slice na' q' nc'] 33)).heap.size = w.heap.size + 1 + 1 := by simp
  obtain ⟨W, hW⟩ : ∃ W, (w.alloc (.cells #[.int .i64 5, .bool bo, .int .i64 n, .string s, .slice pa m pc, .slice na q nc] 33)).alloc (.cells #[.int .i64 5, .bool bo', .int .i64 n', .string s', .slice pa' m' pc', .slice na' q' nc'] 33) = W := ⟨_, rfl⟩
  rw [hW] at hbel hrow hrow' hs2
  clear hs1
  have c0 := cell_of_row W _ 0 _ _ _ hrow
  have c1 := cell_of_row W _ 1 _ _ _ hrow
  have c2 := cell_of_row W _ 2 _ _ _ hrow
  have c3 := cell_of_row W _ 3 _ _ _ hrow
  have c4 := cell_of_row W _ 4 _ _ _ hrow
  have c5 := cell_of_row W _ 5 _ _ _ hrow
  have d0 := cell_of_row W _ 0 _ _ _ hrow'
  have d1 := cell_of_row W _ 1 _ _ _ hrow'
  have d2 := cell_of_row W _ 2 _ _ _ hrow'
  have d3 := cell_of_row W _ 3 _ _ _ hrow'
  have d4 := cell_of_row W _ 4 _ _ _ hrow'
  have d5 := cell_of_row W _ 5 _ _ _ hrow'
  go_enter Try.func20, Try.ntmps20
  go_wp2_with fail
  clear c0 c1 c2 c3 c4 c5 d0 d1 d2 d3 d4 d5 hW
  go_loopw [5] (fun c5 wr => ∃ i : Nat, i ≤ m ∧ i ≤ m' ∧ c5 = .int .i64 (i : Int) ∧ (∀ j, j < i → F j = 0) ∧ Below W.heap.size W wr) (fun c5 _ => m - (intOf c5).toNat)
  case atStart => exact ⟨0, by omega, by omega, rfl, fun j hj => by omega, Below.refl _ _⟩
  case round =>
    obtain ⟨i, hi, hi', rfl, hj, hbw⟩ := hrel
    have HJ : Hid (∀ j, j < i → F j = 0) := hj
    clear hj
    have hrw := (hbw.block _ (lt_of_row hrow)).trans hrow
    have hrw' := (hbw.block _ (lt_of_row hrow')).trans hrow'
    have hbB : Below B w wr := (hbel.mono hB).trans (hbw.mono (by omega))
    have hbf : Below w.heap.size w wr := hbel.trans (hbw.mono (by omega))
    have hszr := hbw.size
    have c0 := cell_of_row wr _ 0 _ _ _ hrw
    have c4 := cell_of_row wr _ 4 _ _ _ hrw
    have c5 := cell_of_row wr _ 5 _ _ _ hrw
    have d4 := cell_of_row wr _ 4 _ _ _ hrw'
    have d5 := cell_of_row wr _ 5 _ _ _ hrw'
    by_cases hlt : i < m ∧ i < m'
    · obtain ⟨him, him'⟩ := hlt
      have hin : (i : Int) < (m : Int) := by omega
      have hin' : (i : Int) < (m' : Int) := by omega
      have hi33 : i < 33 := by omega
      obtain ⟨pb, po, rfl, hpb, hat⟩ := HP.out (by omega)
      obtain ⟨pb', po', rfl, hpb', hat'⟩ := HP'.out (by omega)
      have h6a := (hat i him).later hpb hbB
      have h6b := (hat' i him').later hpb' hbB
      have a0 := h6a.c0
      have a1 := h6a.c1
      have a2 := h6a.c2
      have a3 := h6a.c3
      have a4 := h6a.c4
      have a5 := h6a.c5
      have b0 := h6b.c0
      have b1 := h6b.c1
      have b2 := h6b.c2
      have b3 := h6b.c3
      have b4 := h6b.c4
      have b5 := h6b.c5
      have hLa := (HR.out i him).later hbB
      have hLb := (HR'.out i him').later hbB
      have hca := fun (V : World) (hv : Below wr.heap.size wr V) => (HI.out i him him').1 B V (A i) (A' i) (hLa.later (hv.mono (by omega))) (hLb.later (hv.mono (by omega))) (by have := hv.size; omega)
      have hcb := fun (V : World) (hv : Below wr.heap.size wr V) => (HI.out i him him').2 B V (A' i) (A i) (hLb.later (hv.mono (by omega))) (hLa.later (hv.mono (by omega))) (by have := hv.size; omega)
      have hVa : (f i).val (A i) = .agg #[.int .i64 (f i).k, .bool (f i).b, .int .i64 (f i).n, .string (f i).s, .slice (A i).pa (f i).m (A i).pc, .slice (A i).na (f i).q (A i).nc] := rfl
      have hVb : (f' i).val (A' i) = .agg #[.int .i64 (f' i).k, .bool (f' i).b, .int .i64 (f' i).n, .string (f' i).s, .slice (A' i).pa (f' i).m (A' i).pc, .slice (A' i).na (f' i).q (A' i).nc] := rfl
      rw [hVa, hVb] at hca hcb
      obtain ⟨X, hX⟩ : ∃ X, decide (cmpT (f i) (f' i) < 0) = X := ⟨_, rfl⟩
      obtain ⟨Y, hY⟩ : ∃ Y, decide (cmpT (f' i) (f i) < 0) = Y := ⟨_, rfl⟩
      rw [hX] at hca
      rw [hY] at hcb
      have HX : Hid (decide (cmpT (f i) (f' i) < 0) = X) := hX
      have HY : Hid (decide (cmpT (f' i) (f i) < 0) = Y) := hY
      clear hX hY hVa hVb hat hat' h6a h6b hLa hLb
      · skip
        have hl2 := lt_of_row hrw
        have hl1 := lt_of_row hrw'
        have hlp := block_lt a0
        have hlp' := block_lt b0
        have hcaN := fun N => hca (wr.drewN N) ⟨rfl, rfl, rfl, Nat.le_refl _, fun _ _ => rfl⟩
        go_wp2_with fail
        go_quiet (fail)
        go_wp2_with fail
        go_region_held3 (fun w' => w'.cell? ⟨w.heap.size, 4, none⟩ = some (.slice (some ⟨pb, po, none⟩) m pc) ∧ w'.cell? ⟨pb, po + i * 6, none⟩ = some (.int .i64 (f i).k) ∧ w'.cell? ⟨pb, po + i * 6 + 1, none⟩ = some (.bool (f i).b) ∧ w'.cell? ⟨pb, po + i * 6 + 2, none⟩ = some (.int .i64 (f i).n) ∧ w'.cell? ⟨pb, po + i * 6 + 3, none⟩ = some (.string (f i).s) ∧ w'.cell? ⟨pb, po + i * 6 + 4, none⟩ = some (.slice (A i).pa (f i).m (A i).pc) ∧ w'.cell? ⟨pb, po + i * 6 + 5, none⟩ = some (.slice (A i).na (f i).q (A i).nc) ∧ w'.cell? ⟨w.heap.size + 1, 4, none⟩ = some (.slice (some ⟨pb', po', none⟩) m' pc') ∧ w'.cell? ⟨pb', po' + i * 6, none⟩ = some (.int .i64 (f' i).k) ∧ w'.cell? ⟨pb', po' + i * 6 + 1, none⟩ = some (.bool (f' i).b) ∧ w'.cell? ⟨pb', po' + i * 6 + 2, none⟩ = some (.int .i64 (f' i).n) ∧ w'.cell? ⟨pb', po' + i * 6 + 3, none⟩ = some (.string (f' i).s) ∧ w'.cell? ⟨pb', po' + i * 6 + 4, none⟩ = some (.slice (A' i).pa (f' i).m (A' i).pc) ∧ w'.cell? ⟨pb', po' + i * 6 + 5, none⟩ = some (.slice (A' i).na (f' i).q (A' i).nc)) (first | go_keep | exact ⟨cell_kept c4 (hbk _ hl2), cell_kept a0 (hbk _ hlp), cell_kept a1 (hbk _ hlp), cell_kept a2 (hbk _ hlp), cell_kept a3 (hbk _ hlp), cell_kept a4 (hbk _ hlp), cell_kept a5 (hbk _ hlp), cell_kept d4 (hbk _ hl1), cell_kept b0 (hbk _ hlp'), cell_kept b1 (hbk _ hlp'), cell_kept b2 (hbk _ hlp'), cell_kept b3 (hbk _ hlp'), cell_kept b4 (hbk _ hlp'), cell_kept b5 (hbk _ hlp')⟩) (first | (go_at_call 20; refine (hcaN _).mono ?_; rintro e w3 ⟨rfl, hb3⟩; have hbk : ∀ k, k < wr.heap.size → w3.heap[k]? = wr.heap[k]? := hb3.block))
        replace hb3 : Below wr.heap.size wr w3 := ⟨hb3.os, hb3.tape, hb3.output, hb3.size, hb3.block⟩
        have hFi : F i = cmpT (f i) (f' i) := by
          exact HF.out i
        have hat : cmpT (f' i) (f i) = - cmpT (f i) (f' i) := anti_cmpT (f i) (f' i) (Lies.real _ (HR.out i him)) (Lies.real _ (HR'.out i him'))
        have HN3 : Hid ((X = true → R = true) ∧ (Y = true → R = false) ∧ (X = false → Y = false → F i = 0)) := by
          refine ⟨fun h => ?_, fun h => ?_, fun h1 h2 => ?_⟩
          · have hx := HX.out
            rw [h] at hx
            have hlt := of_decide_eq_true hx
            rw [← HRW.out, lex_at (k := i) (by omega) HJ.out (by rw [hFi]; omega), hFi]
            exact hx
          · have hy := HY.out
            rw [h] at hy
            have hlt := of_decide_eq_true hy
            rw [← HRW.out, lex_at (k := i) (by omega) HJ.out (by rw [hFi]; omega), hFi]
            exact decide_eq_false (by omega)
          · have hx := HX.out
            have hy := HY.out
            rw [h1] at hx
            rw [h2] at hy
            have n1 := of_decide_eq_false hx
            have n2 := of_decide_eq_false hy
            rw [hFi]
            omega
        clear hFi hat
        clear c0 c4 c5 d4 d5 a0 a1 a2 a3 a4 a5 b0 b1 b2 b3 b4 b5
        cases X with
        | true =>
          have HRT : Hid (R = true ∧ True) := ⟨HN3.out.1 rfl, trivial⟩
          clear HN3
          go_wp2
          go_ret
          have e : R = true := HRT.out.1
          rw [e]
          exact ⟨rfl, hbf.trans (hb3.mono (by omega))⟩
        | false =>
          have HN4 : Hid ((Y = true → R = false) ∧ (Y = false → F i = 0)) := ⟨HN3.out.2.1, fun h => HN3.out.2.2 rfl h⟩
          clear HN3
          have hrw3 := (hb3.block _ (lt_of_row hrw)).trans hrw
          have hrw3' := (hb3.block _ (lt_of_row hrw')).trans hrw'
          have hsz3 := hb3.size
          replace hl2 := lt_of_row hrw3
          replace hl1 := lt_of_row hrw3'
          have c4 := cell_of_row w3 _ 4 _ _ _ hrw3
          have d4 := cell_of_row w3 _ 4 _ _ _ hrw3'
          have hbB3 : Below B w w3 := hbB.trans (hb3.mono (by omega))
          obtain ⟨pb2, po2, hpe, hpb2, hat2⟩ := HP.out (by omega)
          obtain ⟨pb2', po2', hpe', hpb2', hat2'⟩ := HP'.out (by omega)
          cases hpe
          cases hpe'
          have h6a := (hat2 i him).later hpb hbB3
          have h6b := (hat2' i him').later hpb' hbB3
          have a0 := h6a.c0
          have a1 := h6a.c1
          have a2 := h6a.c2
          have a3 := h6a.c3
          have a4 := h6a.c4
          have a5 := h6a.c5
          have b0 := h6b.c0
          have b1 := h6b.c1
          have b2 := h6b.c2
          have b3 := h6b.c3
          have b4 := h6b.c4
          have b5 := h6b.c5
          clear hat2 hat2' h6a h6b hbk
          replace hlp := block_lt a0
          replace hlp' := block_lt b0
          have hcbN := fun N => hcb (w3.drewN N) ⟨hb3.os, hb3.tape, hb3.output, hb3.size, hb3.block⟩
          go_wp2_with fail
          go_region_held3 (fun w' => w'.cell? ⟨w.heap.size, 4, none⟩ = some (.slice (some ⟨pb, po, none⟩) m pc) ∧ w'.cell? ⟨pb, po + i * 6, none⟩ = some (.int .i64 (f i).k) ∧ w'.cell? ⟨pb, po + i * 6 + 1, none⟩ = some (.bool (f i).b) ∧ w'.cell? ⟨pb, po + i * 6 + 2, none⟩ = some (.int .i64 (f i).n) ∧ w'.cell? ⟨pb, po + i * 6 + 3, none⟩ = some (.string (f i).s) ∧ w'.cell? ⟨pb, po + i * 6 + 4, none⟩ = some (.slice (A i).pa (f i).m (A i).pc) ∧ w'.cell? ⟨pb, po + i * 6 + 5, none⟩ = some (.slice (A i).na (f i).q (A i).nc) ∧ w'.cell? ⟨w.heap.size + 1, 4, none⟩ = some (.slice (some ⟨pb', po', none⟩) m' pc') ∧ w'.cell? ⟨pb', po' + i * 6, none⟩ = some (.int .i64 (f' i).k) ∧ w'.cell? ⟨pb', po' + i * 6 + 1, none⟩ = some (.bool (f' i).b) ∧ w'.cell? ⟨pb', po' + i * 6 + 2, none⟩ = some (.int .i64 (f' i).n) ∧ w'.cell? ⟨pb', po' + i * 6 + 3, none⟩ = some (.string (f' i).s) ∧ w'.cell? ⟨pb', po' + i * 6 + 4, none⟩ = some (.slice (A' i).pa (f' i).m (A' i).pc) ∧ w'.cell? ⟨pb', po' + i * 6 + 5, none⟩ = some (.slice (A' i).na (f' i).q (A' i).nc)) (first | go_keep | exact ⟨cell_kept c4 (hbk _ hl2), cell_kept a0 (hbk _ hlp), cell_kept a1 (hbk _ hlp), cell_kept a2 (hbk _ hlp), cell_kept a3 (hbk _ hlp), cell_kept a4 (hbk _ hlp), cell_kept a5 (hbk _ hlp), cell_kept d4 (hbk _ hl1), cell_kept b0 (hbk _ hlp'), cell_kept b1 (hbk _ hlp'), cell_kept b2 (hbk _ hlp'), cell_kept b3 (hbk _ hlp'), cell_kept b4 (hbk _ hlp'), cell_kept b5 (hbk _ hlp')⟩) (first | (go_at_call 20; refine (hcbN _).mono ?_; rintro e w4 ⟨rfl, hb4⟩; have hbk : ∀ k, k < w3.heap.size → w4.heap[k]? = w3.heap[k]? := hb4.block))
          replace hb4 : Below w3.heap.size w3 w4 := ⟨hb4.os, hb4.tape, hb4.output, hb4.size, hb4.block⟩
          clear c4 d4 a0 a1 a2 a3 a4 a5 b0 b1 b2 b3 b4 b5
          cases Y with
          | true =>
            have HRT : Hid (True ∧ R = false) := ⟨trivial, HN4.out.1 rfl⟩
            clear HN4
            go_wp2
            go_ret
            have e : R = false := HRT.out.2
            rw [e]
            exact ⟨rfl, (hbf.trans (hb3.mono (by omega))).trans (hb4.mono (by omega))⟩
          | false =>
            have HPE : Hid (F i = 0) := HN4.out.2 rfl
            clear HN4
            go_wp2
            go_roundw
            case rel =>
              refine ⟨i + 1, by omega, by omega, by go_num, fun j hj => ?_, (hbw.trans (hb3.mono (by omega))).trans (hb4.mono (by omega))⟩
              rcases Nat.lt_or_ge j i with k1 | k1
              · exact HJ.out j k1
              · obtain rfl : j = i := by omega
                exact HPE.out
            case measure => simp [intOf]; omega
    · have hend : R = decide (m < m') := by
        rw [← HRW.out, lex_all (fun j hj => HJ.out j (by omega)), decide_cmpI]
        exact decide_eq_decide.mpr (by omega)
      have HEND : Hid (R = decide (m < m')) := hend
      clear hend
      by_cases him : i < m
      · have hin : (i : Int) < (m : Int) := by omega
        have hin' : ¬ (i : Int) < (m' : Int) := by omega
        go_wp2
        go_ret
        rw [HEND.out]
        exact ⟨rfl, hbf⟩
      · have hin : ¬ (i : Int) < (m : Int) := by omega
        go_wp2
        go_ret
        rw [HEND.out]
        exact ⟨rfl, hbf⟩
set_option maxRecDepth 100000 in
set_option maxHeartbeats 8000000 in
theorem bef_6 {bo : Bool} {n : Int} {s : ByteArray} {m : Nat} {f : Nat → Tr} {q : Nat} {g : Nat → ByteArray} {bo' : Bool} {n' : Int} {s' : ByteArray} {m' : Nat} {f' : Nat → Tr} {q' : Nat} {g' : Nat → ByteArray} {d d' : Int} (hm32 : m ≤ 32) (hS : ∀ i, i < m → soundT (f i) d = 0) (hS' : ∀ i, i < m' → soundT (f' i) d' = 0) (hq : q = m) (hq' : q' = m') (ih : ∀ i, i < m → i < m' → BefC (f i) (f' i) ∧ BefC (f' i) (f i)) : BefC (Tr.mk 6 bo n s m f q g) (Tr.mk 6 bo' n' s' m' f' q' g') := by
  intro B w x y hL hM hB
  obtain ⟨A, hp, hr⟩ := hL.part
  obtain ⟨A', hp', hr'⟩ := hM.part
  have hlim := hL.lims
  have hlim' := hM.lims
  replace hlim : (-9223372036854775808 ≤ n ∧ n < 9223372036854775808) ∧ Names B w q g x.na x.nc := ⟨hlim.2.1, hlim.2.2.2.2⟩
  replace hlim' : (-9223372036854775808 ≤ n' ∧ n' < 9223372036854775808) ∧ Names B w q' g' y.na y.nc := ⟨hlim'.2.1, hlim'.2.2.2.2⟩
  obtain ⟨pa, pc, na, nc⟩ := x
  obtain ⟨pa', pc', na', nc'⟩ := y
  have hV : (Tr.mk 6 bo n s m f q g).val ⟨pa, pc, na, nc⟩ = .agg #[.int .i64 6, .bool bo, .int .i64 n, .string s, .slice pa m pc, .slice na q nc] := rfl
  have hV' : (Tr.mk 6 bo' n' s' m' f' q' g').val ⟨pa', pc', na', nc'⟩ = .agg #[.int .i64 6, .bool bo', .int .i64 n', .string s', .slice pa' m' pc', .slice na' q' nc'] := rfl
  rw [hV, hV']
  obtain ⟨R, hR⟩ : ∃ R, decide (cmpT (Tr.mk 6 bo n s m f q g) (Tr.mk 6 bo' n' s' m' f' q' g') < 0) = R := ⟨_, rfl⟩
  rw [hR]
  have HR0 : Hid (decide (cmpT (Tr.mk 6 bo n s m f q g) (Tr.mk 6 bo' n' s' m' f' q' g') < 0) = R) := hR
  clear hR hV hV'
  obtain ⟨F, hF⟩ : ∃ F, cmpF q q' g g' (fun i => cmpT (f i) (f' i)) = F := ⟨_, rfl⟩
  have HRW : Hid (decide (lexI m m' F < 0) = R) := by
    show _ = _
    rw [← HR0.out, ← hF, cmpT]
    rfl
  have HF : Hid (∀ i, i < m → i < m' → F i = if (g i).data.toList ≠ (g' i).data.toList then cmpB (g i) (g' i) else cmpT (f i) (f' i)) := by
    show ∀ i, i < m → i < m' → _
    intro i h1 h2
    rw [← hF]
    unfold cmpF
    by_cases hn : (g i).data.toList ≠ (g' i).data.toList
    · rw [if_pos ⟨by omega, hn⟩, if_pos hn]
    · rw [if_neg (fun h => hn h.2), if_neg hn]
  clear hF
  have HI : Hid (∀ i, i < m → i < m' → BefC (f i) (f' i) ∧ BefC (f' i) (f i)) := ih
  have HS : Hid (∀ i, i < m → soundT (f i) d = 0) := hS
  have HS' : Hid (∀ i, i < m' → soundT (f' i) d' = 0) := hS'
  have HP : Hid (0 < m → ∃ b o, pa = some ⟨b, o, none⟩ ∧ b < B ∧ ∀ i, i < m → At6 w b (o + i * 6) (f i) (A i)) := hp
  have HR : Hid (∀ i, i < m → Lies B w (f i) (A i)) := hr
  have HP' : Hid (0 < m' → ∃ b o, pa' = some ⟨b, o, none⟩ ∧ b < B ∧ ∀ i, i < m' → At6 w b (o + i * 6) (f' i) (A' i)) := hp'
  have HR' : Hid (∀ i, i < m' → Lies B w (f' i) (A' i)) := hr'
  have HQ : Hid (q = m) := hq
  have HQ' : Hid (q' = m') := hq'
  have HN : Hid (Names B w q g na nc) := hlim.2
  have HN' : Hid (Names B w q' g' na' nc') := hlim'.2
  clear hq hq'
  clear ih hS hS' hp hr hp' hr' hlim hlim' HR0
  have hbel : Below w.heap.size w ((w.alloc (.cells #[.int .i64 6, .bool bo, .int .i64 n, .string s, .slice pa m pc, .slice na q nc] 33)).alloc (.cells #[.int .i64 6, .bool bo', .int .i64 n', .string s', .slice pa' m' pc', .slice na' q' nc'] 33)) := ((Below.refl _ w).alloc (Nat.le_refl _) _).alloc (by simp) _
  have hrow := (Below.heap_alloc (w.alloc (.cells #[.int .i64 6, .bool bo, .int .i64 n, .string s, .slice pa m pc, .slice na q nc] 33)) (.cells #[.int .i64 6, .bool bo', .int .i64 n', .string s', .slice pa' m' pc', .slice na' q' nc'] 33) w.heap.size (by simp)).trans (fresh_row w #[.int .i64 6, .bool bo, .int .i64 n, .string s, .slice pa m pc, .slice na q nc] 33)
  have hrow' := fresh_row (w.alloc (.cells #[.int .i64 6, .bool bo, .int .i64 n, .string s, .slice pa m pc, .slice na q nc] 33)) #[.int .i64 6, .bool bo', .int .i64 n', .string s', .slice pa' m' pc', .slice na' q' nc'] 33
  have hs1 : (w.alloc (.cells #[.int .i64 6, .bool bo, .int .i64 n, .string s, .slice pa m pc, .slice na q nc] 33)).heap.size = w.heap.size + 1 := by simp
  rw [hs1] at hrow'
  have hs2 : ((w.alloc (.cells #[.int .i64 6, .bool bo, .int .i64 n, .string s, .slice pa m pc, .slice na q nc] 33)).alloc (.cells #[.int .i64 6, .bool bo', .int .i64 n', .string s', .slice pa' m' pc', .slice na' q' nc'] 33)).heap.size = w.heap.size + 1 + 1 := by simp
  obtain ⟨W, hW⟩ : ∃ W, (w.alloc (.cells #[.int .i64 6, .bool bo, .int .i64 n, .string s, .slice pa m pc, .slice na q nc] 33)).alloc (.cells #[.int .i64 6, .bool bo', .int .i64 n', .string s', .slice pa' m' pc', .slice na' q' nc'] 33) = W := ⟨_, rfl⟩
  rw [hW] at hbel hrow hrow' hs2
  clear hs1
  have c0 := cell_of_row W _ 0 _ _ _ hrow
  have c1 := cell_of_row W _ 1 _ _ _ hrow
  have c2 := cell_of_row W _ 2 _ _ _ hrow
  have c3 := cell_of_row W _ 3 _ _ _ hrow
  have c4 := cell_of_row W _ 4 _ _ _ hrow
  have c5 := cell_of_row W _ 5 _ _ _ hrow
  have d0 := cell_of_row W _ 0 _ _ _ hrow'
  have d1 := cell_of_row W _ 1 _ _ _ hrow'
  have d2 := cell_of_row W _ 2 _ _ _ hrow'
  have d3 := cell_of_row W _ 3 _ _ _ hrow'
  have d4 := cell_of_row W _ 4 _ _ _ hrow'
  have d5 := cell_of_row W _ 5 _ _ _ hrow'
  go_enter Try.func20, Try.ntmps20
  go_wp2_with fail
  clear c0 c1 c2 c3 c4 c5 d0 d1 d2 d3 d4 d5 hW
  go_loopw [5] (fun c5 wr => ∃ i : Nat, i ≤ m ∧ i ≤ m' ∧ c5 = .int .i64 (i : Int) ∧ (∀ j, j < i → F j = 0) ∧ Below W.heap.size W wr) (fun c5 _ => m - (intOf c5).toNat)
  case atStart => exact ⟨0, by omega, by omega, rfl, fun j hj => by omega, Below.refl _ _⟩
  case round =>
    obtain ⟨i, hi, hi', rfl, hj, hbw⟩ := hrel
    have HJ : Hid (∀ j, j < i → F j = 0) := hj
    clear hj
    have hrw := (hbw.block _ (lt_of_row hrow)).trans hrow
    have hrw' := (hbw.block _ (lt_of_row hrow')).trans hrow'
    have hbB : Below B w wr := (hbel.mono hB).trans (hbw.mono (by omega))
    have hbf : Below w.heap.size w wr := hbel.trans (hbw.mono (by omega))
    have hszr := hbw.size
    have c0 := cell_of_row wr _ 0 _ _ _ hrw
    have c4 := cell_of_row wr _ 4 _ _ _ hrw
    have c5 := cell_of_row wr _ 5 _ _ _ hrw
    have d4 := cell_of_row wr _ 4 _ _ _ hrw'
    have d5 := cell_of_row wr _ 5 _ _ _ hrw'
    by_cases hlt : i < m ∧ i < m'
    · obtain ⟨him, him'⟩ := hlt
      have hin : (i : Int) < (m : Int) := by omega
      have hin' : (i : Int) < (m' : Int) := by omega
      have hi33 : i < 33 := by omega
      obtain ⟨pb, po, rfl, hpb, hat⟩ := HP.out (by omega)
      obtain ⟨pb', po', rfl, hpb', hat'⟩ := HP'.out (by omega)
      have h6a := (hat i him).later hpb hbB
      have h6b := (hat' i him').later hpb' hbB
      have a0 := h6a.c0
      have a1 := h6a.c1
      have a2 := h6a.c2
      have a3 := h6a.c3
      have a4 := h6a.c4
      have a5 := h6a.c5
      have b0 := h6b.c0
      have b1 := h6b.c1
      have b2 := h6b.c2
      have b3 := h6b.c3
      have b4 := h6b.c4
      have b5 := h6b.c5
      have hLa := (HR.out i him).later hbB
      have hLb := (HR'.out i him').later hbB
      have hca := fun (V : World) (hv : Below wr.heap.size wr V) => (HI.out i him him').1 B V (A i) (A' i) (hLa.later (hv.mono (by omega))) (hLb.later (hv.mono (by omega))) (by have := hv.size; omega)
      have hcb := fun (V : World) (hv : Below wr.heap.size wr V) => (HI.out i him him').2 B V (A' i) (A i) (hLb.later (hv.mono (by omega))) (hLa.later (hv.mono (by omega))) (by have := hv.size; omega)
      have hVa : (f i).val (A i) = .agg #[.int .i64 (f i).k, .bool (f i).b, .int .i64 (f i).n, .string (f i).s, .slice (A i).pa (f i).m (A i).pc, .slice (A i).na (f i).q (A i).nc] := rfl
      have hVb : (f' i).val (A' i) = .agg #[.int .i64 (f' i).k, .bool (f' i).b, .int .i64 (f' i).n, .string (f' i).s, .slice (A' i).pa (f' i).m (A' i).pc, .slice (A' i).na (f' i).q (A' i).nc] := rfl
      rw [hVa, hVb] at hca hcb
      obtain ⟨X, hX⟩ : ∃ X, decide (cmpT (f i) (f' i) < 0) = X := ⟨_, rfl⟩
      obtain ⟨Y, hY⟩ : ∃ Y, decide (cmpT (f' i) (f i) < 0) = Y := ⟨_, rfl⟩
      rw [hX] at hca
      rw [hY] at hcb
      have HX : Hid (decide (cmpT (f i) (f' i) < 0) = X) := hX
      have HY : Hid (decide (cmpT (f' i) (f i) < 0) = Y) := hY
      clear hX hY hVa hVb hat hat' h6a h6b hLa hLb
      obtain ⟨nb, no, rfl, hnb, hng⟩ := HN.out.2.2.2 (by have := HQ.out; omega)
      obtain ⟨nb', no', rfl, hnb', hng'⟩ := HN'.out.2.2.2 (by have := HQ'.out; omega)
      have en := cell_later (hng i (by have := HQ.out; omega)) hnb hbB
      have en' := cell_later (hng' i (by have := HQ'.out; omega)) hnb' hbB
      have hiq : (i : Int) < (q : Int) := by have := HQ.out; omega
      have hiq' : (i : Int) < (q' : Int) := by have := HQ'.out; omega
      clear hng hng'
      cases hge : ((g i).toList == (g' i).toList) with
      | false =>
        have hne : g i ≠ g' i := fun e => by rw [e] at hge; simp at hge
        have HNE : Hid (g i ≠ g' i) := hne
        have hge' : ((g i).toList != (g' i).toList) = true := by simpa using hge
        clear hne
        go_wp2_with fail
        go_quiet (fail)
        go_wp2_with fail
        go_quiet (fail)
        go_wp2
        go_ret
        have e : R = Op.bytesLess (g i).toList (g' i).toList := by
          have hd : (g i).data.toList ≠ (g' i).data.toList := fun e => HNE.out (ByteArray.ext (Array.ext' e))
          have hFi : F i = cmpB (g i) (g' i) := by rw [HF.out i him him', if_pos hd]
          have h0 : F i ≠ 0 := by rw [hFi]; exact fun h => hd (cmpB_zero h)
          rw [← HRW.out, lex_at (k := i) (by omega) HJ.out h0, hFi, Lib.toList_data, Lib.toList_data, less_cmp]
          rfl
        rw [e]
        exact ⟨rfl, ⟨hbf.os, hbf.tape, hbf.output, hbf.size, hbf.block⟩⟩
      | true =>
        have heq : g i = g' i := by
          have h1 : (g i).toList = (g' i).toList := by simpa using hge
          rw [Lib.toList_data, Lib.toList_data] at h1
          exact ByteArray.ext (Array.ext' h1)
        have HEQ : Hid (g i = g' i) := heq
        clear heq
        have hl2 := lt_of_row hrw
        have hl1 := lt_of_row hrw'
        have hlp := block_lt a0
        have hlp' := block_lt b0
        have hcaN := fun N => hca (wr.drewN N) ⟨rfl, rfl, rfl, Nat.le_refl _, fun _ _ => rfl⟩
        go_wp2_with fail
        go_quiet (fail)
        go_wp2_with fail
        go_region_held3 (fun w' => w'.cell? ⟨w.heap.size, 4, none⟩ = some (.slice (some ⟨pb, po, none⟩) m pc) ∧ w'.cell? ⟨pb, po + i * 6, none⟩ = some (.int .i64 (f i).k) ∧ w'.cell? ⟨pb, po + i * 6 + 1, none⟩ = some (.bool (f i).b) ∧ w'.cell? ⟨pb, po + i * 6 + 2, none⟩ = some (.int .i64 (f i).n) ∧ w'.cell? ⟨pb, po + i * 6 + 3, none⟩ = some (.string (f i).s) ∧ w'.cell? ⟨pb, po + i * 6 + 4, none⟩ = some (.slice (A i).pa (f i).m (A i).pc) ∧ w'.cell? ⟨pb, po + i * 6 + 5, none⟩ = some (.slice (A i).na (f i).q (A i).nc) ∧ w'.cell? ⟨w.heap.size + 1, 4, none⟩ = some (.slice (some ⟨pb', po', none⟩) m' pc') ∧ w'.cell? ⟨pb', po' + i * 6, none⟩ = some (.int .i64 (f' i).k) ∧ w'.cell? ⟨pb', po' + i * 6 + 1, none⟩ = some (.bool (f' i).b) ∧ w'.cell? ⟨pb', po' + i * 6 + 2, none⟩ = some (.int .i64 (f' i).n) ∧ w'.cell? ⟨pb', po' + i * 6 + 3, none⟩ = some (.string (f' i).s) ∧ w'.cell? ⟨pb', po' + i * 6 + 4, none⟩ = some (.slice (A' i).pa (f' i).m (A' i).pc) ∧ w'.cell? ⟨pb', po' + i * 6 + 5, none⟩ = some (.slice (A' i).na (f' i).q (A' i).nc)) (first | go_keep | exact ⟨cell_kept c4 (hbk _ hl2), cell_kept a0 (hbk _ hlp), cell_kept a1 (hbk _ hlp), cell_kept a2 (hbk _ hlp), cell_kept a3 (hbk _ hlp), cell_kept a4 (hbk _ hlp), cell_kept a5 (hbk _ hlp), cell_kept d4 (hbk _ hl1), cell_kept b0 (hbk _ hlp'), cell_kept b1 (hbk _ hlp'), cell_kept b2 (hbk _ hlp'), cell_kept b3 (hbk _ hlp'), cell_kept b4 (hbk _ hlp'), cell_kept b5 (hbk _ hlp')⟩) (first | (go_at_call 20; refine (hcaN _).mono ?_; rintro e w3 ⟨rfl, hb3⟩; have hbk : ∀ k, k < wr.heap.size → w3.heap[k]? = wr.heap[k]? := hb3.block))
        replace hb3 : Below wr.heap.size wr w3 := ⟨hb3.os, hb3.tape, hb3.output, hb3.size, hb3.block⟩
        have hFi : F i = cmpT (f i) (f' i) := by
          rw [HF.out i him him', if_neg (by rw [HEQ.out]; exact fun h => h rfl)]
        have hat : cmpT (f' i) (f i) = - cmpT (f i) (f' i) := anti_cmpT (f i) (f' i) (Lies.real _ (HR.out i him)) (Lies.real _ (HR'.out i him'))
        have HN3 : Hid ((X = true → R = true) ∧ (Y = true → R = false) ∧ (X = false → Y = false → F i = 0)) := by
          refine ⟨fun h => ?_, fun h => ?_, fun h1 h2 => ?_⟩
          · have hx := HX.out
            rw [h] at hx
            have hlt := of_decide_eq_true hx
            rw [← HRW.out, lex_at (k := i) (by omega) HJ.out (by rw [hFi]; omega), hFi]
            exact hx
          · have hy := HY.out
            rw [h] at hy
            have hlt := of_decide_eq_true hy
            rw [← HRW.out, lex_at (k := i) (by omega) HJ.out (by rw [hFi]; omega), hFi]
            exact decide_eq_false (by omega)
          · have hx := HX.out
            have hy := HY.out
            rw [h1] at hx
            rw [h2] at hy
            have n1 := of_decide_eq_false hx
            have n2 := of_decide_eq_false hy
            rw [hFi]
            omega
        clear hFi hat
        clear c0 c4 c5 d4 d5 a0 a1 a2 a3 a4 a5 b0 b1 b2 b3 b4 b5
        cases X with
        | true =>
          have HRT : Hid (R = true ∧ True) := ⟨HN3.out.1 rfl, trivial⟩
          clear HN3
          go_wp2
          go_ret
          have e : R = true := HRT.out.1
          rw [e]
          exact ⟨rfl, hbf.trans (hb3.mono (by omega))⟩
        | false =>
          have HN4 : Hid ((Y = true → R = false) ∧ (Y = false → F i = 0)) := ⟨HN3.out.2.1, fun h => HN3.out.2.2 rfl h⟩
          clear HN3
          have hrw3 := (hb3.block _ (lt_of_row hrw)).trans hrw
          have hrw3' := (hb3.block _ (lt_of_row hrw')).trans hrw'
          have hsz3 := hb3.size
          replace hl2 := lt_of_row hrw3
          replace hl1 := lt_of_row hrw3'
          have c4 := cell_of_row w3 _ 4 _ _ _ hrw3
          have d4 := cell_of_row w3 _ 4 _ _ _ hrw3'
          have hbB3 : Below B w w3 := hbB.trans (hb3.mono (by omega))
          obtain ⟨pb2, po2, hpe, hpb2, hat2⟩ := HP.out (by omega)
          obtain ⟨pb2', po2', hpe', hpb2', hat2'⟩ := HP'.out (by omega)
          cases hpe
          cases hpe'
          have h6a := (hat2 i him).later hpb hbB3
          have h6b := (hat2' i him').later hpb' hbB3
          have a0 := h6a.c0
          have a1 := h6a.c1
          have a2 := h6a.c2
          have a3 := h6a.c3
          have a4 := h6a.c4
          have a5 := h6a.c5
          have b0 := h6b.c0
          have b1 := h6b.c1
          have b2 := h6b.c2
          have b3 := h6b.c3
          have b4 := h6b.c4
          have b5 := h6b.c5
          clear hat2 hat2' h6a h6b hbk
          replace hlp := block_lt a0
          replace hlp' := block_lt b0
          have hcbN := fun N => hcb (w3.drewN N) ⟨hb3.os, hb3.tape, hb3.output, hb3.size, hb3.block⟩
          go_wp2_with fail
          go_region_held3 (fun w' => w'.cell? ⟨w.heap.size, 4, none⟩ = some (.slice (some ⟨pb, po, none⟩) m pc) ∧ w'.cell? ⟨pb, po + i * 6, none⟩ = some (.int .i64 (f i).k) ∧ w'.cell? ⟨pb, po + i * 6 + 1, none⟩ = some (.bool (f i).b) ∧ w'.cell? ⟨pb, po + i * 6 + 2, none⟩ = some (.int .i64 (f i).n) ∧ w'.cell? ⟨pb, po + i * 6 + 3, none⟩ = some (.string (f i).s) ∧ w'.cell? ⟨pb, po + i * 6 + 4, none⟩ = some (.slice (A i).pa (f i).m (A i).pc) ∧ w'.cell? ⟨pb, po + i * 6 + 5, none⟩ = some (.slice (A i).na (f i).q (A i).nc) ∧ w'.cell? ⟨w.heap.size + 1, 4, none⟩ = some (.slice (some ⟨pb', po', none⟩) m' pc') ∧ w'.cell? ⟨pb', po' + i * 6, none⟩ = some (.int .i64 (f' i).k) ∧ w'.cell? ⟨pb', po' + i * 6 + 1, none⟩ = some (.bool (f' i).b) ∧ w'.cell? ⟨pb', po' + i * 6 + 2, none⟩ = some (.int .i64 (f' i).n) ∧ w'.cell? ⟨pb', po' + i * 6 + 3, none⟩ = some (.string (f' i).s) ∧ w'.cell? ⟨pb', po' + i * 6 + 4, none⟩ = some (.slice (A' i).pa (f' i).m (A' i).pc) ∧ w'.cell? ⟨pb', po' + i * 6 + 5, none⟩ = some (.slice (A' i).na (f' i).q (A' i).nc)) (first | go_keep | exact ⟨cell_kept c4 (hbk _ hl2), cell_kept a0 (hbk _ hlp), cell_kept a1 (hbk _ hlp), cell_kept a2 (hbk _ hlp), cell_kept a3 (hbk _ hlp), cell_kept a4 (hbk _ hlp), cell_kept a5 (hbk _ hlp), cell_kept d4 (hbk _ hl1), cell_kept b0 (hbk _ hlp'), cell_kept b1 (hbk _ hlp'), cell_kept b2 (hbk _ hlp'), cell_kept b3 (hbk _ hlp'), cell_kept b4 (hbk _ hlp'), cell_kept b5 (hbk _ hlp')⟩) (first | (go_at_call 20; refine (hcbN _).mono ?_; rintro e w4 ⟨rfl, hb4⟩; have hbk : ∀ k, k < w3.heap.size → w4.heap[k]? = w3.heap[k]? := hb4.block))
          replace hb4 : Below w3.heap.size w3 w4 := ⟨hb4.os, hb4.tape, hb4.output, hb4.size, hb4.block⟩
          clear c4 d4 a0 a1 a2 a3 a4 a5 b0 b1 b2 b3 b4 b5
          cases Y with
          | true =>
            have HRT : Hid (True ∧ R = false) := ⟨trivial, HN4.out.1 rfl⟩
            clear HN4
            go_wp2
            go_ret
            have e : R = false := HRT.out.2
            rw [e]
            exact ⟨rfl, (hbf.trans (hb3.mono (by omega))).trans (hb4.mono (by omega))⟩
          | false =>
            have HPE : Hid (F i = 0) := HN4.out.2 rfl
            clear HN4
            go_wp2
            go_roundw
            case rel =>
              refine ⟨i + 1, by omega, by omega, by go_num, fun j hj => ?_, (hbw.trans (hb3.mono (by omega))).trans (hb4.mono (by omega))⟩
              rcases Nat.lt_or_ge j i with k1 | k1
              · exact HJ.out j k1
              · obtain rfl : j = i := by omega
                exact HPE.out
            case measure => simp [intOf]; omega
    · have hend : R = decide (m < m') := by
        rw [← HRW.out, lex_all (fun j hj => HJ.out j (by omega)), decide_cmpI]
        exact decide_eq_decide.mpr (by omega)
      have HEND : Hid (R = decide (m < m')) := hend
      clear hend
      by_cases him : i < m
      · have hin : (i : Int) < (m : Int) := by omega
        have hin' : ¬ (i : Int) < (m' : Int) := by omega
        go_wp2
        go_ret
        rw [HEND.out]
        exact ⟨rfl, hbf⟩
      · have hin : ¬ (i : Int) < (m : Int) := by omega
        go_wp2
        go_ret
        rw [HEND.out]
        exact ⟨rfl, hbf⟩
theorem formed_m {k : Int} {b : Bool} {n : Int} {s : ByteArray} {m q : Nat} (h : formedB k b n s m q = true) (h5 : k < 5) : m = 0 := by
  unfold formedB at h
  simp only [Bool.and_eq_true, Bool.or_eq_true, decide_eq_true_eq] at h
  omega
theorem bef_all (a : Tr) : ∀ (b : Tr) (d d' : Int), soundT a d = 0 → soundT b d' = 0 → BefC a b ∧ BefC b a := by
  induction a with
  | no => exact fun b _ _ _ _ => ⟨fun _ _ _ _ hL => hL.no.elim, fun _ _ _ _ _ hL => hL.no.elim⟩
  | mk k bo n s m f q g ih =>
    intro b d d' ha hb
    cases b with
    | no => exact ⟨fun _ _ _ _ _ hL => hL.no.elim, fun _ _ _ _ hL => hL.no.elim⟩
    | mk k' bo' n' s' m' f' q' g' =>
      have hP := soundP ha
      have hQ := soundP hb
      have h0 := hP.k0
      have h6 := hP.k6
      have h0' := hQ.k0
      have h6' := hQ.k6
      by_cases hk : k = k'
      · subst hk
        have hi := fun i (hi : i < m) (hi' : i < m') => ih i (f' i) _ _ (hP.ch i hi) (hQ.ch i hi')
        obtain rfl | rfl | rfl | rfl | rfl | rfl | rfl : k = 0 ∨ k = 1 ∨ k = 2 ∨ k = 3 ∨ k = 4 ∨ k = 5 ∨ k = 6 := by omega
        · have e1 := formed_m hP.fm (by decide)
          have e2 := formed_m hQ.fm (by decide)
          exact ⟨bef_0 e1 e2, bef_0 e2 e1⟩
        · exact ⟨bef_1, bef_1⟩
        · exact ⟨bef_2, bef_2⟩
        · exact ⟨bef_3, bef_3⟩
        · exact ⟨bef_4, bef_4⟩
        · exact ⟨bef_5 hP.m32 hP.ch hQ.ch (formed5 hP.fm) (formed5 hQ.fm) hi, bef_5 hQ.m32 hQ.ch hP.ch (formed5 hQ.fm) (formed5 hP.fm) (fun i h1 h2 => (hi i h2 h1).symm)⟩
        · exact ⟨bef_6 hP.m32 hP.ch hQ.ch (hP.nm rfl).1 (hQ.nm rfl).1 hi, bef_6 hQ.m32 hQ.ch hP.ch (hQ.nm rfl).1 (hP.nm rfl).1 (fun i h1 h2 => (hi i h2 h1).symm)⟩
      · exact ⟨bef_kind hk, bef_kind (fun e => hk e.symm)⟩
end Go.Proofs.Ytjmjlijmeahmfaa
