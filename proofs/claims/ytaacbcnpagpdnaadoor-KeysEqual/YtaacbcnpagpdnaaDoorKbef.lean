/- The document's order of values (Before, Same): of sound values it is that of their keys. -/
import Derived.Test.YtaacbcnpagpdnaaDoorKord
import Derived.Deep.RegionHeld3
import Derived.Deep.QuietTactic
import Derived.BigQuiet
import Derived.BigGuardPart
namespace Go.Proofs.YtaacbcnpagpdnaaDoor
open Go.RowKit
def BefC (a b : Tr) : Prop := ∀ (B : Nat) (w : World) (x y : Ad), Lies B w a x → Lies B w b y → B ≤ w.heap.size →
    Calls Tryd.prog 18 #[a.val x, b.val y] w fun e w' => e = .returned (.bool (lt8 (keyT a) (keyT b))) ∧ Below w.heap.size w w'
theorem byte_lt {a b : Int} (ha : 0 ≤ a) (ha6 : a ≤ 6) (hb : 0 ≤ b) (hb6 : b ≤ 6) (h : a ≠ b) (r r' : List UInt8) : lt8 (UInt8.ofNat a.toNat :: r) (UInt8.ofNat b.toNat :: r') = decide (a < b) := by
  have e : (UInt8.ofNat a.toNat == UInt8.ofNat b.toNat) = false := by
    have : UInt8.ofNat a.toNat ≠ UInt8.ofNat b.toNat := fun k => h (kind_byte ha ha6 hb hb6 k)
    simpa using this
  rw [lt8_cons, e]
  simp only [Bool.false_and, Bool.or_false]
  rw [decide_eq_decide, u8_lt, toNat_ofNat_lt (by omega), toNat_ofNat_lt (by omega)]
  omega
set_option maxRecDepth 100000 in
set_option maxHeartbeats 8000000 in
theorem bef_kind {bo : Bool} {n : Int} {s : ByteArray} {m : Nat} {f : Nat → Tr} {q : Nat} {g : Nat → ByteArray} {bo' : Bool} {n' : Int} {s' : ByteArray} {m' : Nat} {f' : Nat → Tr} {q' : Nat} {g' : Nat → ByteArray} {k k' : Int} (h0 : 0 ≤ k) (h6 : k ≤ 6) (h0' : 0 ≤ k') (h6' : k' ≤ 6) (hne : k ≠ k') : BefC (Tr.mk k bo n s m f q g) (Tr.mk k' bo' n' s' m' f' q' g') := by
  intro B w x y hL hM hB
  have hlim := hL.lims
  have hlim' := hM.lims
  replace hlim : (-9223372036854775808 ≤ n ∧ n < 9223372036854775808) ∧ Names B w q g x.na x.nc := ⟨hlim.2.1, hlim.2.2.2.2⟩
  replace hlim' : (-9223372036854775808 ≤ n' ∧ n' < 9223372036854775808) ∧ Names B w q' g' y.na y.nc := ⟨hlim'.2.1, hlim'.2.2.2.2⟩
  obtain ⟨pa, pc, na, nc⟩ := x
  obtain ⟨pa', pc', na', nc'⟩ := y
  have hV : (Tr.mk k bo n s m f q g).val ⟨pa, pc, na, nc⟩ = .agg #[.int .i64 k, .bool bo, .int .i64 n, .string s, .slice pa m pc, .slice na q nc] := rfl
  have hV' : (Tr.mk k' bo' n' s' m' f' q' g').val ⟨pa', pc', na', nc'⟩ = .agg #[.int .i64 k', .bool bo', .int .i64 n', .string s', .slice pa' m' pc', .slice na' q' nc'] := rfl
  rw [hV, hV']
  obtain ⟨R, hR⟩ : ∃ R, lt8 (keyT (Tr.mk k bo n s m f q g)) (keyT (Tr.mk k' bo' n' s' m' f' q' g')) = R := ⟨_, rfl⟩
  rw [hR]
  have HR0 : Hid (lt8 (keyT (Tr.mk k bo n s m f q g)) (keyT (Tr.mk k' bo' n' s' m' f' q' g')) = R) := hR
  clear hR hV hV'
  have hbel : Below w.heap.size w ((w.alloc (.cells #[.int .i64 k, .bool bo, .int .i64 n, .string s, .slice pa m pc, .slice na q nc] 34)).alloc (.cells #[.int .i64 k', .bool bo', .int .i64 n', .string s', .slice pa' m' pc', .slice na' q' nc'] 34)) := ((Below.refl _ w).alloc (Nat.le_refl _) _).alloc (by simp) _
  have hrow := (Below.heap_alloc (w.alloc (.cells #[.int .i64 k, .bool bo, .int .i64 n, .string s, .slice pa m pc, .slice na q nc] 34)) (.cells #[.int .i64 k', .bool bo', .int .i64 n', .string s', .slice pa' m' pc', .slice na' q' nc'] 34) w.heap.size (by simp)).trans (fresh_row w #[.int .i64 k, .bool bo, .int .i64 n, .string s, .slice pa m pc, .slice na q nc] 34)
  have hrow' := fresh_row (w.alloc (.cells #[.int .i64 k, .bool bo, .int .i64 n, .string s, .slice pa m pc, .slice na q nc] 34)) #[.int .i64 k', .bool bo', .int .i64 n', .string s', .slice pa' m' pc', .slice na' q' nc'] 34
  have hs1 : (w.alloc (.cells #[.int .i64 k, .bool bo, .int .i64 n, .string s, .slice pa m pc, .slice na q nc] 34)).heap.size = w.heap.size + 1 := by simp
  rw [hs1] at hrow'
  have hs2 : ((w.alloc (.cells #[.int .i64 k, .bool bo, .int .i64 n, .string s, .slice pa m pc, .slice na q nc] 34)).alloc (.cells #[.int .i64 k', .bool bo', .int .i64 n', .string s', .slice pa' m' pc', .slice na' q' nc'] 34)).heap.size = w.heap.size + 1 + 1 := by simp
  obtain ⟨W, hW⟩ : ∃ W, (w.alloc (.cells #[.int .i64 k, .bool bo, .int .i64 n, .string s, .slice pa m pc, .slice na q nc] 34)).alloc (.cells #[.int .i64 k', .bool bo', .int .i64 n', .string s', .slice pa' m' pc', .slice na' q' nc'] 34) = W := ⟨_, rfl⟩
  rw [hW] at hbel hrow hrow' hs2
  clear hs1
  have c0 := cell_of_row W _ 0 _ _ _ hrow
  have c1 := cell_of_row W _ 1 _ _ _ hrow
  have c2 := cell_of_row W _ 2 _ _ _ hrow
  have c3 := cell_of_row W _ 3 _ _ _ hrow
  have c4 := cell_of_row W _ 4 _ _ _ hrow
  have c5 := cell_of_row W _ 5 _ _ _ hrow
  have d0 := cell_of_row W _ 0 _ _ _ hrow'
  have d1 := cell_of_row W _ 1 _ _ _ hrow'
  have d2 := cell_of_row W _ 2 _ _ _ hrow'
  have d3 := cell_of_row W _ 3 _ _ _ hrow'
  have d4 := cell_of_row W _ 4 _ _ _ hrow'
  have d5 := cell_of_row W _ 5 _ _ _ hrow'
  have hne' : (k != k') = true := by simpa using hne
  have HNE : Hid (k ≠ k') := hne
  clear hne
  go_enter Tryd.func18, Tryd.ntmps18
  go_wp2
  go_ret
  have e : R = decide (k < k') := by
    rw [← HR0.out]
    rw [keyT, keyT]
    exact byte_lt h0 h6 h0' h6' HNE.out _ _
  rw [e]
  exact ⟨rfl, hbel⟩
set_option maxRecDepth 100000 in
set_option maxHeartbeats 8000000 in
theorem bef_0 {bo : Bool} {n : Int} {s : ByteArray} {m : Nat} {f : Nat → Tr} {q : Nat} {g : Nat → ByteArray} {bo' : Bool} {n' : Int} {s' : ByteArray} {m' : Nat} {f' : Nat → Tr} {q' : Nat} {g' : Nat → ByteArray} (hm : m = 0) (hm' : m' = 0) : BefC (Tr.mk 0 bo n s m f q g) (Tr.mk 0 bo' n' s' m' f' q' g') := by
  intro B w x y hL hM hB
  have hz : ¬ (0 : Int) < (m : Int) := by omega
  have HZ : Hid (¬ m < m') := by show ¬ _; omega
  clear hm hm'
  have hlim := hL.lims
  have hlim' := hM.lims
  replace hlim : (-9223372036854775808 ≤ n ∧ n < 9223372036854775808) ∧ Names B w q g x.na x.nc := ⟨hlim.2.1, hlim.2.2.2.2⟩
  replace hlim' : (-9223372036854775808 ≤ n' ∧ n' < 9223372036854775808) ∧ Names B w q' g' y.na y.nc := ⟨hlim'.2.1, hlim'.2.2.2.2⟩
  obtain ⟨pa, pc, na, nc⟩ := x
  obtain ⟨pa', pc', na', nc'⟩ := y
  have hV : (Tr.mk 0 bo n s m f q g).val ⟨pa, pc, na, nc⟩ = .agg #[.int .i64 0, .bool bo, .int .i64 n, .string s, .slice pa m pc, .slice na q nc] := rfl
  have hV' : (Tr.mk 0 bo' n' s' m' f' q' g').val ⟨pa', pc', na', nc'⟩ = .agg #[.int .i64 0, .bool bo', .int .i64 n', .string s', .slice pa' m' pc', .slice na' q' nc'] := rfl
  rw [hV, hV']
  obtain ⟨R, hR⟩ : ∃ R, lt8 (keyT (Tr.mk 0 bo n s m f q g)) (keyT (Tr.mk 0 bo' n' s' m' f' q' g')) = R := ⟨_, rfl⟩
  rw [hR]
  have HR0 : Hid (lt8 (keyT (Tr.mk 0 bo n s m f q g)) (keyT (Tr.mk 0 bo' n' s' m' f' q' g')) = R) := hR
  clear hR hV hV'
  have hbel : Below w.heap.size w ((w.alloc (.cells #[.int .i64 0, .bool bo, .int .i64 n, .string s, .slice pa m pc, .slice na q nc] 34)).alloc (.cells #[.int .i64 0, .bool bo', .int .i64 n', .string s', .slice pa' m' pc', .slice na' q' nc'] 34)) := ((Below.refl _ w).alloc (Nat.le_refl _) _).alloc (by simp) _
  have hrow := (Below.heap_alloc (w.alloc (.cells #[.int .i64 0, .bool bo, .int .i64 n, .string s, .slice pa m pc, .slice na q nc] 34)) (.cells #[.int .i64 0, .bool bo', .int .i64 n', .string s', .slice pa' m' pc', .slice na' q' nc'] 34) w.heap.size (by simp)).trans (fresh_row w #[.int .i64 0, .bool bo, .int .i64 n, .string s, .slice pa m pc, .slice na q nc] 34)
  have hrow' := fresh_row (w.alloc (.cells #[.int .i64 0, .bool bo, .int .i64 n, .string s, .slice pa m pc, .slice na q nc] 34)) #[.int .i64 0, .bool bo', .int .i64 n', .string s', .slice pa' m' pc', .slice na' q' nc'] 34
  have hs1 : (w.alloc (.cells #[.int .i64 0, .bool bo, .int .i64 n, .string s, .slice pa m pc, .slice na q nc] 34)).heap.size = w.heap.size + 1 := by simp
  rw [hs1] at hrow'
  have hs2 : ((w.alloc (.cells #[.int .i64 0, .bool bo, .int .i64 n, .string s, .slice pa m pc, .slice na q nc] 34)).alloc (.cells #[.int .i64 0, .bool bo', .int .i64 n', .string s', .slice pa' m' pc', .slice na' q' nc'] 34)).heap.size = w.heap.size + 1 + 1 := by simp
  obtain ⟨W, hW⟩ : ∃ W, (w.alloc (.cells #[.int .i64 0, .bool bo, .int .i64 n, .string s, .slice pa m pc, .slice na q nc] 34)).alloc (.cells #[.int .i64 0, .bool bo', .int .i64 n', .string s', .slice pa' m' pc', .slice na' q' nc'] 34) = W := ⟨_, rfl⟩
  rw [hW] at hbel hrow hrow' hs2
  clear hs1
  have c0 := cell_of_row W _ 0 _ _ _ hrow
  have c1 := cell_of_row W _ 1 _ _ _ hrow
  have c2 := cell_of_row W _ 2 _ _ _ hrow
  have c3 := cell_of_row W _ 3 _ _ _ hrow
  have c4 := cell_of_row W _ 4 _ _ _ hrow
  have c5 := cell_of_row W _ 5 _ _ _ hrow
  have d0 := cell_of_row W _ 0 _ _ _ hrow'
  have d1 := cell_of_row W _ 1 _ _ _ hrow'
  have d2 := cell_of_row W _ 2 _ _ _ hrow'
  have d3 := cell_of_row W _ 3 _ _ _ hrow'
  have d4 := cell_of_row W _ 4 _ _ _ hrow'
  have d5 := cell_of_row W _ 5 _ _ _ hrow'
  go_enter Tryd.func18, Tryd.ntmps18
  go_wp2
  go_loopw [5] (fun c5 wr => c5 = .int .i64 0 ∧ wr = W) (fun _ _ => 0)
  case atStart => exact ⟨rfl, rfl⟩
  case round =>
    obtain ⟨rfl, rfl⟩ := hrel
    go_wp2
    go_ret
    have e : R = decide (m < m') := by
      rw [← HR0.out]
      rw [key_no rfl, key_no rfl, decide_eq_false HZ.out]; rfl
    rw [e]
    exact ⟨rfl, hbel⟩
set_option maxRecDepth 100000 in
set_option maxHeartbeats 8000000 in
theorem bef_1 {bo : Bool} {n : Int} {s : ByteArray} {m : Nat} {f : Nat → Tr} {q : Nat} {g : Nat → ByteArray} {bo' : Bool} {n' : Int} {s' : ByteArray} {m' : Nat} {f' : Nat → Tr} {q' : Nat} {g' : Nat → ByteArray} : BefC (Tr.mk 1 bo n s m f q g) (Tr.mk 1 bo' n' s' m' f' q' g') := by
  intro B w x y hL hM hB
  have hlim := hL.lims
  have hlim' := hM.lims
  replace hlim : (-9223372036854775808 ≤ n ∧ n < 9223372036854775808) ∧ Names B w q g x.na x.nc := ⟨hlim.2.1, hlim.2.2.2.2⟩
  replace hlim' : (-9223372036854775808 ≤ n' ∧ n' < 9223372036854775808) ∧ Names B w q' g' y.na y.nc := ⟨hlim'.2.1, hlim'.2.2.2.2⟩
  obtain ⟨pa, pc, na, nc⟩ := x
  obtain ⟨pa', pc', na', nc'⟩ := y
  have hV : (Tr.mk 1 bo n s m f q g).val ⟨pa, pc, na, nc⟩ = .agg #[.int .i64 1, .bool bo, .int .i64 n, .string s, .slice pa m pc, .slice na q nc] := rfl
  have hV' : (Tr.mk 1 bo' n' s' m' f' q' g').val ⟨pa', pc', na', nc'⟩ = .agg #[.int .i64 1, .bool bo', .int .i64 n', .string s', .slice pa' m' pc', .slice na' q' nc'] := rfl
  rw [hV, hV']
  obtain ⟨R, hR⟩ : ∃ R, lt8 (keyT (Tr.mk 1 bo n s m f q g)) (keyT (Tr.mk 1 bo' n' s' m' f' q' g')) = R := ⟨_, rfl⟩
  rw [hR]
  have HR0 : Hid (lt8 (keyT (Tr.mk 1 bo n s m f q g)) (keyT (Tr.mk 1 bo' n' s' m' f' q' g')) = R) := hR
  clear hR hV hV'
  have hbel : Below w.heap.size w ((w.alloc (.cells #[.int .i64 1, .bool bo, .int .i64 n, .string s, .slice pa m pc, .slice na q nc] 34)).alloc (.cells #[.int .i64 1, .bool bo', .int .i64 n', .string s', .slice pa' m' pc', .slice na' q' nc'] 34)) := ((Below.refl _ w).alloc (Nat.le_refl _) _).alloc (by simp) _
  have hrow := (Below.heap_alloc (w.alloc (.cells #[.int .i64 1, .bool bo, .int .i64 n, .string s, .slice pa m pc, .slice na q nc] 34)) (.cells #[.int .i64 1, .bool bo', .int .i64 n', .string s', .slice pa' m' pc', .slice na' q' nc'] 34) w.heap.size (by simp)).trans (fresh_row w #[.int .i64 1, .bool bo, .int .i64 n, .string s, .slice pa m pc, .slice na q nc] 34)
  have hrow' := fresh_row (w.alloc (.cells #[.int .i64 1, .bool bo, .int .i64 n, .string s, .slice pa m pc, .slice na q nc] 34)) #[.int .i64 1, .bool bo', .int .i64 n', .string s', .slice pa' m' pc', .slice na' q' nc'] 34
  have hs1 : (w.alloc (.cells #[.int .i64 1, .bool bo, .int .i64 n, .string s, .slice pa m pc, .slice na q nc] 34)).heap.size = w.heap.size + 1 := by simp
  rw [hs1] at hrow'
  have hs2 : ((w.alloc (.cells #[.int .i64 1, .bool bo, .int .i64 n, .string s, .slice pa m pc, .slice na q nc] 34)).alloc (.cells #[.int .i64 1, .bool bo', .int .i64 n', .string s', .slice pa' m' pc', .slice na' q' nc'] 34)).heap.size = w.heap.size + 1 + 1 := by simp
  obtain ⟨W, hW⟩ : ∃ W, (w.alloc (.cells #[.int .i64 1, .bool bo, .int .i64 n, .string s, .slice pa m pc, .slice na q nc] 34)).alloc (.cells #[.int .i64 1, .bool bo', .int .i64 n', .string s', .slice pa' m' pc', .slice na' q' nc'] 34) = W := ⟨_, rfl⟩
  rw [hW] at hbel hrow hrow' hs2
  clear hs1
  have c0 := cell_of_row W _ 0 _ _ _ hrow
  have c1 := cell_of_row W _ 1 _ _ _ hrow
  have c2 := cell_of_row W _ 2 _ _ _ hrow
  have c3 := cell_of_row W _ 3 _ _ _ hrow
  have c4 := cell_of_row W _ 4 _ _ _ hrow
  have c5 := cell_of_row W _ 5 _ _ _ hrow
  have d0 := cell_of_row W _ 0 _ _ _ hrow'
  have d1 := cell_of_row W _ 1 _ _ _ hrow'
  have d2 := cell_of_row W _ 2 _ _ _ hrow'
  have d3 := cell_of_row W _ 3 _ _ _ hrow'
  have d4 := cell_of_row W _ 4 _ _ _ hrow'
  have d5 := cell_of_row W _ 5 _ _ _ hrow'
  cases bo with
  | true =>
    go_enter Tryd.func18, Tryd.ntmps18
    go_wp2
    go_ret
    have e : R = false := by
      rw [← HR0.out]
      rw [key_bool, key_bool]; cases bo' <;> rfl
    rw [e]
    exact ⟨rfl, hbel⟩
  | false =>
    go_enter Tryd.func18, Tryd.ntmps18
    go_wp2
    go_ret
    have e : R = bo' := by
      rw [← HR0.out]
      rw [key_bool, key_bool]; cases bo' <;> rfl
    rw [e]
    exact ⟨rfl, hbel⟩
set_option maxRecDepth 100000 in
set_option maxHeartbeats 8000000 in
theorem bef_2 {bo : Bool} {n : Int} {s : ByteArray} {m : Nat} {f : Nat → Tr} {q : Nat} {g : Nat → ByteArray} {bo' : Bool} {n' : Int} {s' : ByteArray} {m' : Nat} {f' : Nat → Tr} {q' : Nat} {g' : Nat → ByteArray} : BefC (Tr.mk 2 bo n s m f q g) (Tr.mk 2 bo' n' s' m' f' q' g') := by
  intro B w x y hL hM hB
  have hlim := hL.lims
  have hlim' := hM.lims
  replace hlim : (-9223372036854775808 ≤ n ∧ n < 9223372036854775808) ∧ Names B w q g x.na x.nc := ⟨hlim.2.1, hlim.2.2.2.2⟩
  replace hlim' : (-9223372036854775808 ≤ n' ∧ n' < 9223372036854775808) ∧ Names B w q' g' y.na y.nc := ⟨hlim'.2.1, hlim'.2.2.2.2⟩
  obtain ⟨pa, pc, na, nc⟩ := x
  obtain ⟨pa', pc', na', nc'⟩ := y
  have hV : (Tr.mk 2 bo n s m f q g).val ⟨pa, pc, na, nc⟩ = .agg #[.int .i64 2, .bool bo, .int .i64 n, .string s, .slice pa m pc, .slice na q nc] := rfl
  have hV' : (Tr.mk 2 bo' n' s' m' f' q' g').val ⟨pa', pc', na', nc'⟩ = .agg #[.int .i64 2, .bool bo', .int .i64 n', .string s', .slice pa' m' pc', .slice na' q' nc'] := rfl
  rw [hV, hV']
  obtain ⟨R, hR⟩ : ∃ R, lt8 (keyT (Tr.mk 2 bo n s m f q g)) (keyT (Tr.mk 2 bo' n' s' m' f' q' g')) = R := ⟨_, rfl⟩
  rw [hR]
  have HR0 : Hid (lt8 (keyT (Tr.mk 2 bo n s m f q g)) (keyT (Tr.mk 2 bo' n' s' m' f' q' g')) = R) := hR
  clear hR hV hV'
  have hbel : Below w.heap.size w ((w.alloc (.cells #[.int .i64 2, .bool bo, .int .i64 n, .string s, .slice pa m pc, .slice na q nc] 34)).alloc (.cells #[.int .i64 2, .bool bo', .int .i64 n', .string s', .slice pa' m' pc', .slice na' q' nc'] 34)) := ((Below.refl _ w).alloc (Nat.le_refl _) _).alloc (by simp) _
  have hrow := (Below.heap_alloc (w.alloc (.cells #[.int .i64 2, .bool bo, .int .i64 n, .string s, .slice pa m pc, .slice na q nc] 34)) (.cells #[.int .i64 2, .bool bo', .int .i64 n', .string s', .slice pa' m' pc', .slice na' q' nc'] 34) w.heap.size (by simp)).trans (fresh_row w #[.int .i64 2, .bool bo, .int .i64 n, .string s, .slice pa m pc, .slice na q nc] 34)
  have hrow' := fresh_row (w.alloc (.cells #[.int .i64 2, .bool bo, .int .i64 n, .string s, .slice pa m pc, .slice na q nc] 34)) #[.int .i64 2, .bool bo', .int .i64 n', .string s', .slice pa' m' pc', .slice na' q' nc'] 34
  have hs1 : (w.alloc (.cells #[.int .i64 2, .bool bo, .int .i64 n, .string s, .slice pa m pc, .slice na q nc] 34)).heap.size = w.heap.size + 1 := by simp
  rw [hs1] at hrow'
  have hs2 : ((w.alloc (.cells #[.int .i64 2, .bool bo, .int .i64 n, .string s, .slice pa m pc, .slice na q nc] 34)).alloc (.cells #[.int .i64 2, .bool bo', .int .i64 n', .string s', .slice pa' m' pc', .slice na' q' nc'] 34)).heap.size = w.heap.size + 1 + 1 := by simp
  obtain ⟨W, hW⟩ : ∃ W, (w.alloc (.cells #[.int .i64 2, .bool bo, .int .i64 n, .string s, .slice pa m pc, .slice na q nc] 34)).alloc (.cells #[.int .i64 2, .bool bo', .int .i64 n', .string s', .slice pa' m' pc', .slice na' q' nc'] 34) = W := ⟨_, rfl⟩
  rw [hW] at hbel hrow hrow' hs2
  clear hs1
  have c0 := cell_of_row W _ 0 _ _ _ hrow
  have c1 := cell_of_row W _ 1 _ _ _ hrow
  have c2 := cell_of_row W _ 2 _ _ _ hrow
  have c3 := cell_of_row W _ 3 _ _ _ hrow
  have c4 := cell_of_row W _ 4 _ _ _ hrow
  have c5 := cell_of_row W _ 5 _ _ _ hrow
  have d0 := cell_of_row W _ 0 _ _ _ hrow'
  have d1 := cell_of_row W _ 1 _ _ _ hrow'
  have d2 := cell_of_row W _ 2 _ _ _ hrow'
  have d3 := cell_of_row W _ 3 _ _ _ hrow'
  have d4 := cell_of_row W _ 4 _ _ _ hrow'
  have d5 := cell_of_row W _ 5 _ _ _ hrow'
  go_enter Tryd.func18, Tryd.ntmps18
  go_wp2
  go_ret
  have e : R = decide (n < n') := by
    rw [← HR0.out]
    rw [key_num, key_num, lt8_cons, be8_lt _ _ (turnN_lt hlim.1.2) (turnN_lt hlim'.1.2)]
    have h1 := hlim.1
    have h2 := hlim'.1
    have e2 : decide (turnN n < turnN n') = decide (n < n') := by rw [decide_eq_decide]; unfold turnN; omega
    rw [e2]
    simp
  rw [e]
  exact ⟨rfl, hbel⟩
set_option maxRecDepth 100000 in
set_option maxHeartbeats 8000000 in
theorem bef_3 {bo : Bool} {n : Int} {s : ByteArray} {m : Nat} {f : Nat → Tr} {q : Nat} {g : Nat → ByteArray} {bo' : Bool} {n' : Int} {s' : ByteArray} {m' : Nat} {f' : Nat → Tr} {q' : Nat} {g' : Nat → ByteArray} : BefC (Tr.mk 3 bo n s m f q g) (Tr.mk 3 bo' n' s' m' f' q' g') := by
  intro B w x y hL hM hB
  have hlim := hL.lims
  have hlim' := hM.lims
  replace hlim : (-9223372036854775808 ≤ n ∧ n < 9223372036854775808) ∧ Names B w q g x.na x.nc := ⟨hlim.2.1, hlim.2.2.2.2⟩
  replace hlim' : (-9223372036854775808 ≤ n' ∧ n' < 9223372036854775808) ∧ Names B w q' g' y.na y.nc := ⟨hlim'.2.1, hlim'.2.2.2.2⟩
  obtain ⟨pa, pc, na, nc⟩ := x
  obtain ⟨pa', pc', na', nc'⟩ := y
  have hV : (Tr.mk 3 bo n s m f q g).val ⟨pa, pc, na, nc⟩ = .agg #[.int .i64 3, .bool bo, .int .i64 n, .string s, .slice pa m pc, .slice na q nc] := rfl
  have hV' : (Tr.mk 3 bo' n' s' m' f' q' g').val ⟨pa', pc', na', nc'⟩ = .agg #[.int .i64 3, .bool bo', .int .i64 n', .string s', .slice pa' m' pc', .slice na' q' nc'] := rfl
  rw [hV, hV']
  obtain ⟨R, hR⟩ : ∃ R, lt8 (keyT (Tr.mk 3 bo n s m f q g)) (keyT (Tr.mk 3 bo' n' s' m' f' q' g')) = R := ⟨_, rfl⟩
  rw [hR]
  have HR0 : Hid (lt8 (keyT (Tr.mk 3 bo n s m f q g)) (keyT (Tr.mk 3 bo' n' s' m' f' q' g')) = R) := hR
  clear hR hV hV'
  have hbel : Below w.heap.size w ((w.alloc (.cells #[.int .i64 3, .bool bo, .int .i64 n, .string s, .slice pa m pc, .slice na q nc] 34)).alloc (.cells #[.int .i64 3, .bool bo', .int .i64 n', .string s', .slice pa' m' pc', .slice na' q' nc'] 34)) := ((Below.refl _ w).alloc (Nat.le_refl _) _).alloc (by simp) _
  have hrow := (Below.heap_alloc (w.alloc (.cells #[.int .i64 3, .bool bo, .int .i64 n, .string s, .slice pa m pc, .slice na q nc] 34)) (.cells #[.int .i64 3, .bool bo', .int .i64 n', .string s', .slice pa' m' pc', .slice na' q' nc'] 34) w.heap.size (by simp)).trans (fresh_row w #[.int .i64 3, .bool bo, .int .i64 n, .string s, .slice pa m pc, .slice na q nc] 34)
  have hrow' := fresh_row (w.alloc (.cells #[.int .i64 3, .bool bo, .int .i64 n, .string s, .slice pa m pc, .slice na q nc] 34)) #[.int .i64 3, .bool bo', .int .i64 n', .string s', .slice pa' m' pc', .slice na' q' nc'] 34
  have hs1 : (w.alloc (.cells #[.int .i64 3, .bool bo, .int .i64 n, .string s, .slice pa m pc, .slice na q nc] 34)).heap.size = w.heap.size + 1 := by simp
  rw [hs1] at hrow'
  have hs2 : ((w.alloc (.cells #[.int .i64 3, .bool bo, .int .i64 n, .string s, .slice pa m pc, .slice na q nc] 34)).alloc (.cells #[.int .i64 3, .bool bo', .int .i64 n', .string s', .slice pa' m' pc', .slice na' q' nc'] 34)).heap.size = w.heap.size + 1 + 1 := by simp
  obtain ⟨W, hW⟩ : ∃ W, (w.alloc (.cells #[.int .i64 3, .bool bo, .int .i64 n, .string s, .slice pa m pc, .slice na q nc] 34)).alloc (.cells #[.int .i64 3, .bool bo', .int .i64 n', .string s', .slice pa' m' pc', .slice na' q' nc'] 34) = W := ⟨_, rfl⟩
  rw [hW] at hbel hrow hrow' hs2
  clear hs1
  have c0 := cell_of_row W _ 0 _ _ _ hrow
  have c1 := cell_of_row W _ 1 _ _ _ hrow
  have c2 := cell_of_row W _ 2 _ _ _ hrow
  have c3 := cell_of_row W _ 3 _ _ _ hrow
  have c4 := cell_of_row W _ 4 _ _ _ hrow
  have c5 := cell_of_row W _ 5 _ _ _ hrow
  have d0 := cell_of_row W _ 0 _ _ _ hrow'
  have d1 := cell_of_row W _ 1 _ _ _ hrow'
  have d2 := cell_of_row W _ 2 _ _ _ hrow'
  have d3 := cell_of_row W _ 3 _ _ _ hrow'
  have d4 := cell_of_row W _ 4 _ _ _ hrow'
  have d5 := cell_of_row W _ 5 _ _ _ hrow'
  go_enter Tryd.func18, Tryd.ntmps18
  go_wp2
  go_ret
  have e : R = Op.bytesLess s.toList s'.toList := by
    rw [← HR0.out]
    rw [key_str, key_str, lt8_cons, Lib.toList_data, Lib.toList_data]
    by_cases he : s = s'
    · subst he
      rw [lt8_irrefl, show Op.bytesLess s.data.toList s.data.toList = lt8 s.data.toList s.data.toList from rfl, lt8_irrefl]
      simp
    · rw [ktext_lt he]
      simp
      rfl
  rw [e]
  exact ⟨rfl, hbel⟩
set_option maxRecDepth 100000 in
set_option maxHeartbeats 8000000 in
theorem bef_4 {bo : Bool} {n : Int} {s : ByteArray} {m : Nat} {f : Nat → Tr} {q : Nat} {g : Nat → ByteArray} {bo' : Bool} {n' : Int} {s' : ByteArray} {m' : Nat} {f' : Nat → Tr} {q' : Nat} {g' : Nat → ByteArray} : BefC (Tr.mk 4 bo n s m f q g) (Tr.mk 4 bo' n' s' m' f' q' g') := by
  intro B w x y hL hM hB
  have hlim := hL.lims
  have hlim' := hM.lims
  replace hlim : (-9223372036854775808 ≤ n ∧ n < 9223372036854775808) ∧ Names B w q g x.na x.nc := ⟨hlim.2.1, hlim.2.2.2.2⟩
  replace hlim' : (-9223372036854775808 ≤ n' ∧ n' < 9223372036854775808) ∧ Names B w q' g' y.na y.nc := ⟨hlim'.2.1, hlim'.2.2.2.2⟩
  obtain ⟨pa, pc, na, nc⟩ := x
  obtain ⟨pa', pc', na', nc'⟩ := y
  have hV : (Tr.mk 4 bo n s m f q g).val ⟨pa, pc, na, nc⟩ = .agg #[.int .i64 4, .bool bo, .int .i64 n, .string s, .slice pa m pc, .slice na q nc] := rfl
  have hV' : (Tr.mk 4 bo' n' s' m' f' q' g').val ⟨pa', pc', na', nc'⟩ = .agg #[.int .i64 4, .bool bo', .int .i64 n', .string s', .slice pa' m' pc', .slice na' q' nc'] := rfl
  rw [hV, hV']
  obtain ⟨R, hR⟩ : ∃ R, lt8 (keyT (Tr.mk 4 bo n s m f q g)) (keyT (Tr.mk 4 bo' n' s' m' f' q' g')) = R := ⟨_, rfl⟩
  rw [hR]
  have HR0 : Hid (lt8 (keyT (Tr.mk 4 bo n s m f q g)) (keyT (Tr.mk 4 bo' n' s' m' f' q' g')) = R) := hR
  clear hR hV hV'
  have hbel : Below w.heap.size w ((w.alloc (.cells #[.int .i64 4, .bool bo, .int .i64 n, .string s, .slice pa m pc, .slice na q nc] 34)).alloc (.cells #[.int .i64 4, .bool bo', .int .i64 n', .string s', .slice pa' m' pc', .slice na' q' nc'] 34)) := ((Below.refl _ w).alloc (Nat.le_refl _) _).alloc (by simp) _
  have hrow := (Below.heap_alloc (w.alloc (.cells #[.int .i64 4, .bool bo, .int .i64 n, .string s, .slice pa m pc, .slice na q nc] 34)) (.cells #[.int .i64 4, .bool bo', .int .i64 n', .string s', .slice pa' m' pc', .slice na' q' nc'] 34) w.heap.size (by simp)).trans (fresh_row w #[.int .i64 4, .bool bo, .int .i64 n, .string s, .slice pa m pc, .slice na q nc] 34)
  have hrow' := fresh_row (w.alloc (.cells #[.int .i64 4, .bool bo, .int .i64 n, .string s, .slice pa m pc, .slice na q nc] 34)) #[.int .i64 4, .bool bo', .int .i64 n', .string s', .slice pa' m' pc', .slice na' q' nc'] 34
  have hs1 : (w.alloc (.cells #[.int .i64 4, .bool bo, .int .i64 n, .string s, .slice pa m pc, .slice na q nc] 34)).heap.size = w.heap.size + 1 := by simp
  rw [hs1] at hrow'
  have hs2 : ((w.alloc (.cells #[.int .i64 4, .bool bo, .int .i64 n, .string s, .slice pa m pc, .slice na q nc] 34)).alloc (.cells #[.int .i64 4, .bool bo', .int .i64 n', .string s', .slice pa' m' pc', .slice na' q' nc'] 34)).heap.size = w.heap.size + 1 + 1 := by simp
  obtain ⟨W, hW⟩ : ∃ W, (w.alloc (.cells #[.int .i64 4, .bool bo, .int .i64 n, .string s, .slice pa m pc, .slice na q nc] 34)).alloc (.cells #[.int .i64 4, .bool bo', .int .i64 n', .string s', .slice pa' m' pc', .slice na' q' nc'] 34) = W := ⟨_, rfl⟩
  rw [hW] at hbel hrow hrow' hs2
  clear hs1
  have c0 := cell_of_row W _ 0 _ _ _ hrow
  have c1 := cell_of_row W _ 1 _ _ _ hrow
  have c2 := cell_of_row W _ 2 _ _ _ hrow
  have c3 := cell_of_row W _ 3 _ _ _ hrow
  have c4 := cell_of_row W _ 4 _ _ _ hrow
  have c5 := cell_of_row W _ 5 _ _ _ hrow
  have d0 := cell_of_row W _ 0 _ _ _ hrow'
  have d1 := cell_of_row W _ 1 _ _ _ hrow'
  have d2 := cell_of_row W _ 2 _ _ _ hrow'
  have d3 := cell_of_row W _ 3 _ _ _ hrow'
  have d4 := cell_of_row W _ 4 _ _ _ hrow'
  have d5 := cell_of_row W _ 5 _ _ _ hrow'
  go_enter Tryd.func18, Tryd.ntmps18
  go_wp2
  go_ret
  have e : R = Op.bytesLess s.toList s'.toList := by
    rw [← HR0.out]
    rw [key_byt, key_byt, lt8_cons, Lib.toList_data, Lib.toList_data]
    by_cases he : s = s'
    · subst he
      rw [lt8_irrefl, show Op.bytesLess s.data.toList s.data.toList = lt8 s.data.toList s.data.toList from rfl, lt8_irrefl]
      simp
    · rw [ktext_lt he]
      simp
      rfl
  rw [e]
  exact ⟨rfl, hbel⟩
set_option maxRecDepth 100000 in
set_option maxHeartbeats 8000000 in
theorem bef_5 {bo : Bool} {n : Int} {s : ByteArray} {m : Nat} {f : Nat → Tr} {q : Nat} {g : Nat → ByteArray} {bo' : Bool} {n' : Int} {s' : ByteArray} {m' : Nat} {f' : Nat → Tr} {q' : Nat} {g' : Nat → ByteArray} {d d' : Int} (hm32 : m ≤ 32) (hS : ∀ i, i < m → soundT (f i) d = 0) (hS' : ∀ i, i < m' → soundT (f' i) d' = 0) (ih : ∀ i, i < m → i < m' → BefC (f i) (f' i) ∧ BefC (f' i) (f i)) : BefC (Tr.mk 5 bo n s m f q g) (Tr.mk 5 bo' n' s' m' f' q' g') := by
  intro B w x y hL hM hB
  obtain ⟨A, hp, hr⟩ := hL.part
  obtain ⟨A', hp', hr'⟩ := hM.part
  have hlim := hL.lims
  have hlim' := hM.lims
  replace hlim : (-9223372036854775808 ≤ n ∧ n < 9223372036854775808) ∧ Names B w q g x.na x.nc := ⟨hlim.2.1, hlim.2.2.2.2⟩
  replace hlim' : (-9223372036854775808 ≤ n' ∧ n' < 9223372036854775808) ∧ Names B w q' g' y.na y.nc := ⟨hlim'.2.1, hlim'.2.2.2.2⟩
  obtain ⟨pa, pc, na, nc⟩ := x
  obtain ⟨pa', pc', na', nc'⟩ := y
  have hV : (Tr.mk 5 bo n s m f q g).val ⟨pa, pc, na, nc⟩ = .agg #[.int .i64 5, .bool bo, .int .i64 n, .string s, .slice pa m pc, .slice na q nc] := rfl
  have hV' : (Tr.mk 5 bo' n' s' m' f' q' g').val ⟨pa', pc', na', nc'⟩ = .agg #[.int .i64 5, .bool bo', .int .i64 n', .string s', .slice pa' m' pc', .slice na' q' nc'] := rfl
  rw [hV, hV']
  obtain ⟨R, hR⟩ : ∃ R, lt8 (keyT (Tr.mk 5 bo n s m f q g)) (keyT (Tr.mk 5 bo' n' s' m' f' q' g')) = R := ⟨_, rfl⟩
  rw [hR]
  have HR0 : Hid (lt8 (keyT (Tr.mk 5 bo n s m f q g)) (keyT (Tr.mk 5 bo' n' s' m' f' q' g')) = R) := hR
  clear hR hV hV'
  have HRW : Hid (lt8 (rowT m (partF 5 f g)) (rowT m' (partF 5 f' g')) = R) := by
    show _ = _
    rw [← HR0.out, key_lst, key_lst, lt8_cons]
    simp
  have HI : Hid (∀ i, i < m → i < m' → BefC (f i) (f' i) ∧ BefC (f' i) (f i)) := ih
  have HS : Hid (∀ i, i < m → soundT (f i) d = 0) := hS
  have HS' : Hid (∀ i, i < m' → soundT (f' i) d' = 0) := hS'
  have HP : Hid (0 < m → ∃ b o, pa = some ⟨b, o, none⟩ ∧ b < B ∧ ∀ i, i < m → At6 w b (o + i * 6) (f i) (A i)) := hp
  have HR : Hid (∀ i, i < m → Lies B w (f i) (A i)) := hr
  have HP' : Hid (0 < m' → ∃ b o, pa' = some ⟨b, o, none⟩ ∧ b < B ∧ ∀ i, i < m' → At6 w b (o + i * 6) (f' i) (A' i)) := hp'
  have HR' : Hid (∀ i, i < m' → Lies B w (f' i) (A' i)) := hr'
  clear ih hS hS' hp hr hp' hr' hlim hlim' HR0
  have hbel : Below w.heap.size w ((w.alloc (.cells #[.int .i64 5, .bool bo, .int .i64 n, .string s, .slice pa m pc, .slice na q nc] 34)).alloc (.cells #[.int .i64 5, .bool bo', .int .i64 n', .string s', .slice pa' m' pc', .slice na' q' nc'] 34)) := ((Below.refl _ w).alloc (Nat.le_refl _) _).alloc (by simp) _
  have hrow := (Below.heap_alloc (w.alloc (.cells #[.int .i64 5, .bool bo, .int .i64 n, .string s, .slice pa m pc, .slice na q nc] 34)) (.cells #[.int .i64 5, .bool bo', .int .i64 n', .string s', .slice pa' m' pc', .slice na' q' nc'] 34) w.heap.size (by simp)).trans (fresh_row w #[.int .i64 5, .bool bo, .int .i64 n, .string s, .slice pa m pc, .slice na q nc] 34)
  have hrow' := fresh_row (w.alloc (.cells #[.int .i64 5, .bool bo, .int .i64 n, .string s, .slice pa m pc, .slice na q nc] 34)) #[.int .i64 5, .bool bo', .int .i64 n', .string s', .slice pa' m' pc', .slice na' q' nc'] 34
  have hs1 : (w.alloc (.cells #[.int .i64 5, .bool bo, .int .i64 n, .string s, .slice pa m pc, .slice na q nc] 34)).heap.size = w.heap.size + 1 := by simp
  rw [hs1] at hrow'
  have hs2 : ((w.alloc (.cells #[.int .i64 5, .bool bo, .int .i64 n, .string s, .slice pa m pc, .slice na q nc] 34)).alloc (.cells #[.int .i64 5, .bool bo', .int .i64 n', .string s', .slice pa' m' pc', .slice na' q' nc'] 34)).heap.size = w.heap.size + 1 + 1 := by simp
  obtain ⟨W, hW⟩ : ∃ W, (w.alloc (.cells #[.int .i64 5, .bool bo, .int .i64 n, .string s, .slice pa m pc, .slice na q nc] 34)).alloc (.cells #[.int .i64 5, .bool bo', .int .i64 n', .string s', .slice pa' m' pc', .slice na' q' nc'] 34) = W := ⟨_, rfl⟩
  rw [hW] at hbel hrow hrow' hs2
  clear hs1
  have c0 := cell_of_row W _ 0 _ _ _ hrow
  have c1 := cell_of_row W _ 1 _ _ _ hrow
  have c2 := cell_of_row W _ 2 _ _ _ hrow
  have c3 := cell_of_row W _ 3 _ _ _ hrow
  have c4 := cell_of_row W _ 4 _ _ _ hrow
  have c5 := cell_of_row W _ 5 _ _ _ hrow
  have d0 := cell_of_row W _ 0 _ _ _ hrow'
  have d1 := cell_of_row W _ 1 _ _ _ hrow'
  have d2 := cell_of_row W _ 2 _ _ _ hrow'
  have d3 := cell_of_row W _ 3 _ _ _ hrow'
  have d4 := cell_of_row W _ 4 _ _ _ hrow'
  have d5 := cell_of_row W _ 5 _ _ _ hrow'
  go_enter Tryd.func18, Tryd.ntmps18
  go_wp2_with fail
  clear c0 c1 c2 c3 c4 c5 d0 d1 d2 d3 d4 d5 hW
  go_loopw [5] (fun c5 wr => ∃ i : Nat, i ≤ m ∧ i ≤ m' ∧ c5 = .int .i64 (i : Int) ∧ (∀ j, j < i → partF 5 f g j = partF 5 f' g' j) ∧ Below W.heap.size W wr) (fun c5 _ => m - (intOf c5).toNat)
  case atStart => exact ⟨0, by omega, by omega, rfl, fun j hj => by omega, Below.refl _ _⟩
  case round =>
    obtain ⟨i, hi, hi', rfl, hj, hbw⟩ := hrel
    have HJ : Hid (∀ j, j < i → partF 5 f g j = partF 5 f' g' j) := hj
    clear hj
    have hrw := (hbw.block _ (lt_of_row hrow)).trans hrow
    have hrw' := (hbw.block _ (lt_of_row hrow')).trans hrow'
    have hbB : Below B w wr := (hbel.mono hB).trans (hbw.mono (by omega))
    have hbf : Below w.heap.size w wr := hbel.trans (hbw.mono (by omega))
    have hszr := hbw.size
    have c0 := cell_of_row wr _ 0 _ _ _ hrw
    have c4 := cell_of_row wr _ 4 _ _ _ hrw
    have c5 := cell_of_row wr _ 5 _ _ _ hrw
    have d4 := cell_of_row wr _ 4 _ _ _ hrw'
    have d5 := cell_of_row wr _ 5 _ _ _ hrw'
    by_cases hlt : i < m ∧ i < m'
    · obtain ⟨him, him'⟩ := hlt
      have hin : (i : Int) < (m : Int) := by omega
      have hin' : (i : Int) < (m' : Int) := by omega
      have hi33 : i < 33 := by omega
      obtain ⟨pb, po, rfl, hpb, hat⟩ := HP.out (by omega)
      obtain ⟨pb', po', rfl, hpb', hat'⟩ := HP'.out (by omega)
      have h6a := (hat i him).later hpb hbB
      have h6b := (hat' i him').later hpb' hbB
      have a0 := h6a.c0
      have a1 := h6a.c1
      have a2 := h6a.c2
      have a3 := h6a.c3
      have a4 := h6a.c4
      have a5 := h6a.c5
      have b0 := h6b.c0
      have b1 := h6b.c1
      have b2 := h6b.c2
      have b3 := h6b.c3
      have b4 := h6b.c4
      have b5 := h6b.c5
      have hLa := (HR.out i him).later hbB
      have hLb := (HR'.out i him').later hbB
      have hca := fun (V : World) (hv : Below wr.heap.size wr V) => (HI.out i him him').1 B V (A i) (A' i) (hLa.later (hv.mono (by omega))) (hLb.later (hv.mono (by omega))) (by have := hv.size; omega)
      have hcb := fun (V : World) (hv : Below wr.heap.size wr V) => (HI.out i him him').2 B V (A' i) (A i) (hLb.later (hv.mono (by omega))) (hLa.later (hv.mono (by omega))) (by have := hv.size; omega)
      have hVa : (f i).val (A i) = .agg #[.int .i64 (f i).k, .bool (f i).b, .int .i64 (f i).n, .string (f i).s, .slice (A i).pa (f i).m (A i).pc, .slice (A i).na (f i).q (A i).nc] := rfl
      have hVb : (f' i).val (A' i) = .agg #[.int .i64 (f' i).k, .bool (f' i).b, .int .i64 (f' i).n, .string (f' i).s, .slice (A' i).pa (f' i).m (A' i).pc, .slice (A' i).na (f' i).q (A' i).nc] := rfl
      rw [hVa, hVb] at hca hcb
      obtain ⟨X, hX⟩ : ∃ X, lt8 (keyT (f i)) (keyT (f' i)) = X := ⟨_, rfl⟩
      obtain ⟨Y, hY⟩ : ∃ Y, lt8 (keyT (f' i)) (keyT (f i)) = Y := ⟨_, rfl⟩
      rw [hX] at hca
      rw [hY] at hcb
      have HX : Hid (lt8 (keyT (f i)) (keyT (f' i)) = X) := hX
      have HY : Hid (lt8 (keyT (f' i)) (keyT (f i)) = Y) := hY
      clear hX hY hVa hVb hat hat' h6a h6b hLa hLb
      · skip
        have hl2 := lt_of_row hrw
        have hl1 := lt_of_row hrw'
        have hlp := block_lt a0
        have hlp' := block_lt b0
        have hcaN := fun N => hca (wr.drewN N) ⟨rfl, rfl, rfl, Nat.le_refl _, fun _ _ => rfl⟩
        go_wp2_with fail
        go_quiet (fail)
        go_wp2_with fail
        go_region_held3 (fun w' => w'.cell? ⟨w.heap.size, 4, none⟩ = some (.slice (some ⟨pb, po, none⟩) m pc) ∧ w'.cell? ⟨pb, po + i * 6, none⟩ = some (.int .i64 (f i).k) ∧ w'.cell? ⟨pb, po + i * 6 + 1, none⟩ = some (.bool (f i).b) ∧ w'.cell? ⟨pb, po + i * 6 + 2, none⟩ = some (.int .i64 (f i).n) ∧ w'.cell? ⟨pb, po + i * 6 + 3, none⟩ = some (.string (f i).s) ∧ w'.cell? ⟨pb, po + i * 6 + 4, none⟩ = some (.slice (A i).pa (f i).m (A i).pc) ∧ w'.cell? ⟨pb, po + i * 6 + 5, none⟩ = some (.slice (A i).na (f i).q (A i).nc) ∧ w'.cell? ⟨w.heap.size + 1, 4, none⟩ = some (.slice (some ⟨pb', po', none⟩) m' pc') ∧ w'.cell? ⟨pb', po' + i * 6, none⟩ = some (.int .i64 (f' i).k) ∧ w'.cell? ⟨pb', po' + i * 6 + 1, none⟩ = some (.bool (f' i).b) ∧ w'.cell? ⟨pb', po' + i * 6 + 2, none⟩ = some (.int .i64 (f' i).n) ∧ w'.cell? ⟨pb', po' + i * 6 + 3, none⟩ = some (.string (f' i).s) ∧ w'.cell? ⟨pb', po' + i * 6 + 4, none⟩ = some (.slice (A' i).pa (f' i).m (A' i).pc) ∧ w'.cell? ⟨pb', po' + i * 6 + 5, none⟩ = some (.slice (A' i).na (f' i).q (A' i).nc)) (first | go_keep | exact ⟨cell_kept c4 (hbk _ hl2), cell_kept a0 (hbk _ hlp), cell_kept a1 (hbk _ hlp), cell_kept a2 (hbk _ hlp), cell_kept a3 (hbk _ hlp), cell_kept a4 (hbk _ hlp), cell_kept a5 (hbk _ hlp), cell_kept d4 (hbk _ hl1), cell_kept b0 (hbk _ hlp'), cell_kept b1 (hbk _ hlp'), cell_kept b2 (hbk _ hlp'), cell_kept b3 (hbk _ hlp'), cell_kept b4 (hbk _ hlp'), cell_kept b5 (hbk _ hlp')⟩) (first | (go_at_call 18; refine (hcaN _).mono ?_; rintro e w3 ⟨rfl, hb3⟩; have hbk : ∀ k, k < wr.heap.size → w3.heap[k]? = wr.heap[k]? := hb3.block))
        replace hb3 : Below wr.heap.size wr w3 := ⟨hb3.os, hb3.tape, hb3.output, hb3.size, hb3.block⟩
        have hne3 : X = true ∨ Y = true → ¬ Comp (keyT (f i)) (keyT (f' i)) := fun h => key_apart (HS.out i him) (HS'.out i him') (fun e => by
          have h1 := HX.out
          have h2 := HY.out
          rw [e, lt8_irrefl] at h1 h2
          rcases h with h | h
          · rw [← h1] at h; cases h
          · rw [← h2] at h; cases h)
        have hpt : ¬ Comp (keyT (f i)) (keyT (f' i)) → R = X := fun h => by
          rw [← HRW.out, ← HX.out]
          exact row_part (p := [1]) HJ.out him him' rfl rfl h
        have HPT : Hid (¬ Comp (keyT (f i)) (keyT (f' i)) → R = X) := hpt
        have HN3 : Hid (X = true ∨ Y = true → ¬ Comp (keyT (f i)) (keyT (f' i))) := hne3
        clear hne3 hpt c0 c4 c5 d4 d5 a0 a1 a2 a3 a4 a5 b0 b1 b2 b3 b4 b5
        cases X with
        | true =>
          go_wp2
          go_ret
          have e : R = true := HPT.out (HN3.out (Or.inl (by trivial)))
          rw [e]
          exact ⟨rfl, hbf.trans (hb3.mono (by omega))⟩
        | false =>
          have hrw3 := (hb3.block _ (lt_of_row hrw)).trans hrw
          have hrw3' := (hb3.block _ (lt_of_row hrw')).trans hrw'
          have hsz3 := hb3.size
          replace hl2 := lt_of_row hrw3
          replace hl1 := lt_of_row hrw3'
          have c4 := cell_of_row w3 _ 4 _ _ _ hrw3
          have d4 := cell_of_row w3 _ 4 _ _ _ hrw3'
          have hbB3 : Below B w w3 := hbB.trans (hb3.mono (by omega))
          obtain ⟨pb2, po2, hpe, hpb2, hat2⟩ := HP.out (by omega)
          obtain ⟨pb2', po2', hpe', hpb2', hat2'⟩ := HP'.out (by omega)
          cases hpe
          cases hpe'
          have h6a := (hat2 i him).later hpb hbB3
          have h6b := (hat2' i him').later hpb' hbB3
          have a0 := h6a.c0
          have a1 := h6a.c1
          have a2 := h6a.c2
          have a3 := h6a.c3
          have a4 := h6a.c4
          have a5 := h6a.c5
          have b0 := h6b.c0
          have b1 := h6b.c1
          have b2 := h6b.c2
          have b3 := h6b.c3
          have b4 := h6b.c4
          have b5 := h6b.c5
          clear hat2 hat2' h6a h6b hbk
          replace hlp := block_lt a0
          replace hlp' := block_lt b0
          have hcbN := fun N => hcb (w3.drewN N) ⟨hb3.os, hb3.tape, hb3.output, hb3.size, hb3.block⟩
          go_wp2_with fail
          go_region_held3 (fun w' => w'.cell? ⟨w.heap.size, 4, none⟩ = some (.slice (some ⟨pb, po, none⟩) m pc) ∧ w'.cell? ⟨pb, po + i * 6, none⟩ = some (.int .i64 (f i).k) ∧ w'.cell? ⟨pb, po + i * 6 + 1, none⟩ = some (.bool (f i).b) ∧ w'.cell? ⟨pb, po + i * 6 + 2, none⟩ = some (.int .i64 (f i).n) ∧ w'.cell? ⟨pb, po + i * 6 + 3, none⟩ = some (.string (f i).s) ∧ w'.cell? ⟨pb, po + i * 6 + 4, none⟩ = some (.slice (A i).pa (f i).m (A i).pc) ∧ w'.cell? ⟨pb, po + i * 6 + 5, none⟩ = some (.slice (A i).na (f i).q (A i).nc) ∧ w'.cell? ⟨w.heap.size + 1, 4, none⟩ = some (.slice (some ⟨pb', po', none⟩) m' pc') ∧ w'.cell? ⟨pb', po' + i * 6, none⟩ = some (.int .i64 (f' i).k) ∧ w'.cell? ⟨pb', po' + i * 6 + 1, none⟩ = some (.bool (f' i).b) ∧ w'.cell? ⟨pb', po' + i * 6 + 2, none⟩ = some (.int .i64 (f' i).n) ∧ w'.cell? ⟨pb', po' + i * 6 + 3, none⟩ = some (.string (f' i).s) ∧ w'.cell? ⟨pb', po' + i * 6 + 4, none⟩ = some (.slice (A' i).pa (f' i).m (A' i).pc) ∧ w'.cell? ⟨pb', po' + i * 6 + 5, none⟩ = some (.slice (A' i).na (f' i).q (A' i).nc)) (first | go_keep | exact ⟨cell_kept c4 (hbk _ hl2), cell_kept a0 (hbk _ hlp), cell_kept a1 (hbk _ hlp), cell_kept a2 (hbk _ hlp), cell_kept a3 (hbk _ hlp), cell_kept a4 (hbk _ hlp), cell_kept a5 (hbk _ hlp), cell_kept d4 (hbk _ hl1), cell_kept b0 (hbk _ hlp'), cell_kept b1 (hbk _ hlp'), cell_kept b2 (hbk _ hlp'), cell_kept b3 (hbk _ hlp'), cell_kept b4 (hbk _ hlp'), cell_kept b5 (hbk _ hlp')⟩) (first | (go_at_call 18; refine (hcbN _).mono ?_; rintro e w4 ⟨rfl, hb4⟩; have hbk : ∀ k, k < w3.heap.size → w4.heap[k]? = w3.heap[k]? := hb4.block))
          replace hb4 : Below w3.heap.size w3 w4 := ⟨hb4.os, hb4.tape, hb4.output, hb4.size, hb4.block⟩
          clear c4 d4 a0 a1 a2 a3 a4 a5 b0 b1 b2 b3 b4 b5
          cases Y with
          | true =>
            go_wp2
            go_ret
            have e : R = false := HPT.out (HN3.out (Or.inr (by trivial)))
            rw [e]
            exact ⟨rfl, (hbf.trans (hb3.mono (by omega))).trans (hb4.mono (by omega))⟩
          | false =>
            have hke : keyT (f i) = keyT (f' i) := by
              rcases lt8_total (keyT (f i)) (keyT (f' i)) with h | h | h
              · rw [HX.out] at h; cases h
              · exact h
              · rw [HY.out] at h; cases h
            have hpe : partF 5 f g i = partF 5 f' g' i := by
              unfold partF
              rw [if_neg (by decide), if_neg (by decide), hke]
            have HPE : Hid (partF 5 f g i = partF 5 f' g' i) := hpe
            clear hke hpe
            go_wp2
            go_roundw
            case rel =>
              refine ⟨i + 1, by omega, by omega, by go_num, fun j hj => ?_, (hbw.trans (hb3.mono (by omega))).trans (hb4.mono (by omega))⟩
              rcases Nat.lt_or_ge j i with k1 | k1
              · exact HJ.out j k1
              · obtain rfl : j = i := by omega
                exact HPE.out
            case measure => simp [intOf]; omega
    · have hend : R = decide (m < m') := by
        rw [← HRW.out]
        refine row_end (fun i => ⟨_, rfl⟩) (fun i => ⟨_, rfl⟩) (fun j hj => HJ.out j ?_)
        omega
      have HEND : Hid (R = decide (m < m')) := hend
      clear hend
      by_cases him : i < m
      · have hin : (i : Int) < (m : Int) := by omega
        have hin' : ¬ (i : Int) < (m' : Int) := by omega
        go_wp2
        go_ret
        rw [HEND.out]
        exact ⟨rfl, hbf⟩
      · have hin : ¬ (i : Int) < (m : Int) := by omega
        go_wp2
        go_ret
        rw [HEND.out]
        exact ⟨rfl, hbf⟩
set_option maxRecDepth 100000 in
set_option maxHeartbeats 8000000 in
theorem bef_6 {bo : Bool} {n : Int} {s : ByteArray} {m : Nat} {f : Nat → Tr} {q : Nat} {g : Nat → ByteArray} {bo' : Bool} {n' : Int} {s' : ByteArray} {m' : Nat} {f' : Nat → Tr} {q' : Nat} {g' : Nat → ByteArray} {d d' : Int} (hm32 : m ≤ 32) (hS : ∀ i, i < m → soundT (f i) d = 0) (hS' : ∀ i, i < m' → soundT (f' i) d' = 0) (hq : q = m) (hq' : q' = m') (ih : ∀ i, i < m → i < m' → BefC (f i) (f' i) ∧ BefC (f' i) (f i)) : BefC (Tr.mk 6 bo n s m f q g) (Tr.mk 6 bo' n' s' m' f' q' g') := by
  intro B w x y hL hM hB
  obtain ⟨A, hp, hr⟩ := hL.part
  obtain ⟨A', hp', hr'⟩ := hM.part
  have hlim := hL.lims
  have hlim' := hM.lims
  replace hlim : (-9223372036854775808 ≤ n ∧ n < 9223372036854775808) ∧ Names B w q g x.na x.nc := ⟨hlim.2.1, hlim.2.2.2.2⟩
  replace hlim' : (-9223372036854775808 ≤ n' ∧ n' < 9223372036854775808) ∧ Names B w q' g' y.na y.nc := ⟨hlim'.2.1, hlim'.2.2.2.2⟩
  obtain ⟨pa, pc, na, nc⟩ := x
  obtain ⟨pa', pc', na', nc'⟩ := y
  have hV : (Tr.mk 6 bo n s m f q g).val ⟨pa, pc, na, nc⟩ = .agg #[.int .i64 6, .bool bo, .int .i64 n, .string s, .slice pa m pc, .slice na q nc] := rfl
  have hV' : (Tr.mk 6 bo' n' s' m' f' q' g').val ⟨pa', pc', na', nc'⟩ = .agg #[.int .i64 6, .bool bo', .int .i64 n', .string s', .slice pa' m' pc', .slice na' q' nc'] := rfl
  rw [hV, hV']
  obtain ⟨R, hR⟩ : ∃ R, lt8 (keyT (Tr.mk 6 bo n s m f q g)) (keyT (Tr.mk 6 bo' n' s' m' f' q' g')) = R := ⟨_, rfl⟩
  rw [hR]
  have HR0 : Hid (lt8 (keyT (Tr.mk 6 bo n s m f q g)) (keyT (Tr.mk 6 bo' n' s' m' f' q' g')) = R) := hR
  clear hR hV hV'
  have HRW : Hid (lt8 (rowT m (partF 6 f g)) (rowT m' (partF 6 f' g')) = R) := by
    show _ = _
    rw [← HR0.out, key_stc, key_stc, lt8_cons]
    simp
  have HI : Hid (∀ i, i < m → i < m' → BefC (f i) (f' i) ∧ BefC (f' i) (f i)) := ih
  have HS : Hid (∀ i, i < m → soundT (f i) d = 0) := hS
  have HS' : Hid (∀ i, i < m' → soundT (f' i) d' = 0) := hS'
  have HP : Hid (0 < m → ∃ b o, pa = some ⟨b, o, none⟩ ∧ b < B ∧ ∀ i, i < m → At6 w b (o + i * 6) (f i) (A i)) := hp
  have HR : Hid (∀ i, i < m → Lies B w (f i) (A i)) := hr
  have HP' : Hid (0 < m' → ∃ b o, pa' = some ⟨b, o, none⟩ ∧ b < B ∧ ∀ i, i < m' → At6 w b (o + i * 6) (f' i) (A' i)) := hp'
  have HR' : Hid (∀ i, i < m' → Lies B w (f' i) (A' i)) := hr'
  have HQ : Hid (q = m) := hq
  have HQ' : Hid (q' = m') := hq'
  have HN : Hid (Names B w q g na nc) := hlim.2
  have HN' : Hid (Names B w q' g' na' nc') := hlim'.2
  clear hq hq'
  clear ih hS hS' hp hr hp' hr' hlim hlim' HR0
  have hbel : Below w.heap.size w ((w.alloc (.cells #[.int .i64 6, .bool bo, .int .i64 n, .string s, .slice pa m pc, .slice na q nc] 34)).alloc (.cells #[.int .i64 6, .bool bo', .int .i64 n', .string s', .slice pa' m' pc', .slice na' q' nc'] 34)) := ((Below.refl _ w).alloc (Nat.le_refl _) _).alloc (by simp) _
  have hrow := (Below.heap_alloc (w.alloc (.cells #[.int .i64 6, .bool bo, .int .i64 n, .string s, .slice pa m pc, .slice na q nc] 34)) (.cells #[.int .i64 6, .bool bo', .int .i64 n', .string s', .slice pa' m' pc', .slice na' q' nc'] 34) w.heap.size (by simp)).trans (fresh_row w #[.int .i64 6, .bool bo, .int .i64 n, .string s, .slice pa m pc, .slice na q nc] 34)
  have hrow' := fresh_row (w.alloc (.cells #[.int .i64 6, .bool bo, .int .i64 n, .string s, .slice pa m pc, .slice na q nc] 34)) #[.int .i64 6, .bool bo', .int .i64 n', .string s', .slice pa' m' pc', .slice na' q' nc'] 34
  have hs1 : (w.alloc (.cells #[.int .i64 6, .bool bo, .int .i64 n, .string s, .slice pa m pc, .slice na q nc] 34)).heap.size = w.heap.size + 1 := by simp
  rw [hs1] at hrow'
  have hs2 : ((w.alloc (.cells #[.int .i64 6, .bool bo, .int .i64 n, .string s, .slice pa m pc, .slice na q nc] 34)).alloc (.cells #[.int .i64 6, .bool bo', .int .i64 n', .string s', .slice pa' m' pc', .slice na' q' nc'] 34)).heap.size = w.heap.size + 1 + 1 := by simp
  obtain ⟨W, hW⟩ : ∃ W, (w.alloc (.cells #[.int .i64 6, .bool bo, .int .i64 n, .string s, .slice pa m pc, .slice na q nc] 34)).alloc (.cells #[.int .i64 6, .bool bo', .int .i64 n', .string s', .slice pa' m' pc', .slice na' q' nc'] 34) = W := ⟨_, rfl⟩
  rw [hW] at hbel hrow hrow' hs2
  clear hs1
  have c0 := cell_of_row W _ 0 _ _ _ hrow
  have c1 := cell_of_row W _ 1 _ _ _ hrow
  have c2 := cell_of_row W _ 2 _ _ _ hrow
  have c3 := cell_of_row W _ 3 _ _ _ hrow
  have c4 := cell_of_row W _ 4 _ _ _ hrow
  have c5 := cell_of_row W _ 5 _ _ _ hrow
  have d0 := cell_of_row W _ 0 _ _ _ hrow'
  have d1 := cell_of_row W _ 1 _ _ _ hrow'
  have d2 := cell_of_row W _ 2 _ _ _ hrow'
  have d3 := cell_of_row W _ 3 _ _ _ hrow'
  have d4 := cell_of_row W _ 4 _ _ _ hrow'
  have d5 := cell_of_row W _ 5 _ _ _ hrow'
  go_enter Tryd.func18, Tryd.ntmps18
  go_wp2_with fail
  clear c0 c1 c2 c3 c4 c5 d0 d1 d2 d3 d4 d5 hW
  go_loopw [5] (fun c5 wr => ∃ i : Nat, i ≤ m ∧ i ≤ m' ∧ c5 = .int .i64 (i : Int) ∧ (∀ j, j < i → partF 6 f g j = partF 6 f' g' j) ∧ Below W.heap.size W wr) (fun c5 _ => m - (intOf c5).toNat)
  case atStart => exact ⟨0, by omega, by omega, rfl, fun j hj => by omega, Below.refl _ _⟩
  case round =>
    obtain ⟨i, hi, hi', rfl, hj, hbw⟩ := hrel
    have HJ : Hid (∀ j, j < i → partF 6 f g j = partF 6 f' g' j) := hj
    clear hj
    have hrw := (hbw.block _ (lt_of_row hrow)).trans hrow
    have hrw' := (hbw.block _ (lt_of_row hrow')).trans hrow'
    have hbB : Below B w wr := (hbel.mono hB).trans (hbw.mono (by omega))
    have hbf : Below w.heap.size w wr := hbel.trans (hbw.mono (by omega))
    have hszr := hbw.size
    have c0 := cell_of_row wr _ 0 _ _ _ hrw
    have c4 := cell_of_row wr _ 4 _ _ _ hrw
    have c5 := cell_of_row wr _ 5 _ _ _ hrw
    have d4 := cell_of_row wr _ 4 _ _ _ hrw'
    have d5 := cell_of_row wr _ 5 _ _ _ hrw'
    by_cases hlt : i < m ∧ i < m'
    · obtain ⟨him, him'⟩ := hlt
      have hin : (i : Int) < (m : Int) := by omega
      have hin' : (i : Int) < (m' : Int) := by omega
      have hi33 : i < 33 := by omega
      obtain ⟨pb, po, rfl, hpb, hat⟩ := HP.out (by omega)
      obtain ⟨pb', po', rfl, hpb', hat'⟩ := HP'.out (by omega)
      have h6a := (hat i him).later hpb hbB
      have h6b := (hat' i him').later hpb' hbB
      have a0 := h6a.c0
      have a1 := h6a.c1
      have a2 := h6a.c2
      have a3 := h6a.c3
      have a4 := h6a.c4
      have a5 := h6a.c5
      have b0 := h6b.c0
      have b1 := h6b.c1
      have b2 := h6b.c2
      have b3 := h6b.c3
      have b4 := h6b.c4
      have b5 := h6b.c5
      have hLa := (HR.out i him).later hbB
      have hLb := (HR'.out i him').later hbB
      have hca := fun (V : World) (hv : Below wr.heap.size wr V) => (HI.out i him him').1 B V (A i) (A' i) (hLa.later (hv.mono (by omega))) (hLb.later (hv.mono (by omega))) (by have := hv.size; omega)
      have hcb := fun (V : World) (hv : Below wr.heap.size wr V) => (HI.out i him him').2 B V (A' i) (A i) (hLb.later (hv.mono (by omega))) (hLa.later (hv.mono (by omega))) (by have := hv.size; omega)
      have hVa : (f i).val (A i) = .agg #[.int .i64 (f i).k, .bool (f i).b, .int .i64 (f i).n, .string (f i).s, .slice (A i).pa (f i).m (A i).pc, .slice (A i).na (f i).q (A i).nc] := rfl
      have hVb : (f' i).val (A' i) = .agg #[.int .i64 (f' i).k, .bool (f' i).b, .int .i64 (f' i).n, .string (f' i).s, .slice (A' i).pa (f' i).m (A' i).pc, .slice (A' i).na (f' i).q (A' i).nc] := rfl
      rw [hVa, hVb] at hca hcb
      obtain ⟨X, hX⟩ : ∃ X, lt8 (keyT (f i)) (keyT (f' i)) = X := ⟨_, rfl⟩
      obtain ⟨Y, hY⟩ : ∃ Y, lt8 (keyT (f' i)) (keyT (f i)) = Y := ⟨_, rfl⟩
      rw [hX] at hca
      rw [hY] at hcb
      have HX : Hid (lt8 (keyT (f i)) (keyT (f' i)) = X) := hX
      have HY : Hid (lt8 (keyT (f' i)) (keyT (f i)) = Y) := hY
      clear hX hY hVa hVb hat hat' h6a h6b hLa hLb
      obtain ⟨nb, no, rfl, hnb, hng⟩ := HN.out.2.2.2 (by have := HQ.out; omega)
      obtain ⟨nb', no', rfl, hnb', hng'⟩ := HN'.out.2.2.2 (by have := HQ'.out; omega)
      have en := cell_later (hng i (by have := HQ.out; omega)) hnb hbB
      have en' := cell_later (hng' i (by have := HQ'.out; omega)) hnb' hbB
      have hiq : (i : Int) < (q : Int) := by have := HQ.out; omega
      have hiq' : (i : Int) < (q' : Int) := by have := HQ'.out; omega
      clear hng hng'
      cases hge : ((g i).toList == (g' i).toList) with
      | false =>
        have hne : g i ≠ g' i := fun e => by rw [e] at hge; simp at hge
        have HNE : Hid (g i ≠ g' i) := hne
        have hge' : ((g i).toList != (g' i).toList) = true := by simpa using hge
        clear hne
        go_wp2_with fail
        go_quiet (fail)
        go_wp2_with fail
        go_quiet (fail)
        go_wp2
        go_ret
        have e : R = Op.bytesLess (g i).toList (g' i).toList := by
          rw [← HRW.out, row_name HJ.out him him' (by unfold partF; rw [if_pos (by decide)]) (by unfold partF; rw [if_pos (by decide)]) HNE.out, Lib.toList_data, Lib.toList_data]
          rfl
        rw [e]
        exact ⟨rfl, ⟨hbf.os, hbf.tape, hbf.output, hbf.size, hbf.block⟩⟩
      | true =>
        have heq : g i = g' i := by
          have h1 : (g i).toList = (g' i).toList := by simpa using hge
          rw [Lib.toList_data, Lib.toList_data] at h1
          exact ByteArray.ext (Array.ext' h1)
        have HEQ : Hid (g i = g' i) := heq
        clear heq
        have hl2 := lt_of_row hrw
        have hl1 := lt_of_row hrw'
        have hlp := block_lt a0
        have hlp' := block_lt b0
        have hcaN := fun N => hca (wr.drewN N) ⟨rfl, rfl, rfl, Nat.le_refl _, fun _ _ => rfl⟩
        go_wp2_with fail
        go_quiet (fail)
        go_wp2_with fail
        go_region_held3 (fun w' => w'.cell? ⟨w.heap.size, 4, none⟩ = some (.slice (some ⟨pb, po, none⟩) m pc) ∧ w'.cell? ⟨pb, po + i * 6, none⟩ = some (.int .i64 (f i).k) ∧ w'.cell? ⟨pb, po + i * 6 + 1, none⟩ = some (.bool (f i).b) ∧ w'.cell? ⟨pb, po + i * 6 + 2, none⟩ = some (.int .i64 (f i).n) ∧ w'.cell? ⟨pb, po + i * 6 + 3, none⟩ = some (.string (f i).s) ∧ w'.cell? ⟨pb, po + i * 6 + 4, none⟩ = some (.slice (A i).pa (f i).m (A i).pc) ∧ w'.cell? ⟨pb, po + i * 6 + 5, none⟩ = some (.slice (A i).na (f i).q (A i).nc) ∧ w'.cell? ⟨w.heap.size + 1, 4, none⟩ = some (.slice (some ⟨pb', po', none⟩) m' pc') ∧ w'.cell? ⟨pb', po' + i * 6, none⟩ = some (.int .i64 (f' i).k) ∧ w'.cell? ⟨pb', po' + i * 6 + 1, none⟩ = some (.bool (f' i).b) ∧ w'.cell? ⟨pb', po' + i * 6 + 2, none⟩ = some (.int .i64 (f' i).n) ∧ w'.cell? ⟨pb', po' + i * 6 + 3, none⟩ = some (.string (f' i).s) ∧ w'.cell? ⟨pb', po' + i * 6 + 4, none⟩ = some (.slice (A' i).pa (f' i).m (A' i).pc) ∧ w'.cell? ⟨pb', po' + i * 6 + 5, none⟩ = some (.slice (A' i).na (f' i).q (A' i).nc)) (first | go_keep | exact ⟨cell_kept c4 (hbk _ hl2), cell_kept a0 (hbk _ hlp), cell_kept a1 (hbk _ hlp), cell_kept a2 (hbk _ hlp), cell_kept a3 (hbk _ hlp), cell_kept a4 (hbk _ hlp), cell_kept a5 (hbk _ hlp), cell_kept d4 (hbk _ hl1), cell_kept b0 (hbk _ hlp'), cell_kept b1 (hbk _ hlp'), cell_kept b2 (hbk _ hlp'), cell_kept b3 (hbk _ hlp'), cell_kept b4 (hbk _ hlp'), cell_kept b5 (hbk _ hlp')⟩) (first | (go_at_call 18; refine (hcaN _).mono ?_; rintro e w3 ⟨rfl, hb3⟩; have hbk : ∀ k, k < wr.heap.size → w3.heap[k]? = wr.heap[k]? := hb3.block))
        replace hb3 : Below wr.heap.size wr w3 := ⟨hb3.os, hb3.tape, hb3.output, hb3.size, hb3.block⟩
        have hne3 : X = true ∨ Y = true → ¬ Comp (keyT (f i)) (keyT (f' i)) := fun h => key_apart (HS.out i him) (HS'.out i him') (fun e => by
          have h1 := HX.out
          have h2 := HY.out
          rw [e, lt8_irrefl] at h1 h2
          rcases h with h | h
          · rw [← h1] at h; cases h
          · rw [← h2] at h; cases h)
        have hpt : ¬ Comp (keyT (f i)) (keyT (f' i)) → R = X := fun h => by
          rw [← HRW.out, ← HX.out]
          refine row_part (p := 1 :: ktextL (g i)) HJ.out him him' ?_ ?_ h
          · unfold partF; rw [if_pos (by decide)]; rfl
          · unfold partF; rw [if_pos (by decide), HEQ.out]; rfl
        have HPT : Hid (¬ Comp (keyT (f i)) (keyT (f' i)) → R = X) := hpt
        have HN3 : Hid (X = true ∨ Y = true → ¬ Comp (keyT (f i)) (keyT (f' i))) := hne3
        clear hne3 hpt c0 c4 c5 d4 d5 a0 a1 a2 a3 a4 a5 b0 b1 b2 b3 b4 b5
        cases X with
        | true =>
          go_wp2
          go_ret
          have e : R = true := HPT.out (HN3.out (Or.inl (by trivial)))
          rw [e]
          exact ⟨rfl, hbf.trans (hb3.mono (by omega))⟩
        | false =>
          have hrw3 := (hb3.block _ (lt_of_row hrw)).trans hrw
          have hrw3' := (hb3.block _ (lt_of_row hrw')).trans hrw'
          have hsz3 := hb3.size
          replace hl2 := lt_of_row hrw3
          replace hl1 := lt_of_row hrw3'
          have c4 := cell_of_row w3 _ 4 _ _ _ hrw3
          have d4 := cell_of_row w3 _ 4 _ _ _ hrw3'
          have hbB3 : Below B w w3 := hbB.trans (hb3.mono (by omega))
          obtain ⟨pb2, po2, hpe, hpb2, hat2⟩ := HP.out (by omega)
          obtain ⟨pb2', po2', hpe', hpb2', hat2'⟩ := HP'.out (by omega)
          cases hpe
          cases hpe'
          have h6a := (hat2 i him).later hpb hbB3
          have h6b := (hat2' i him').later hpb' hbB3
          have a0 := h6a.c0
          have a1 := h6a.c1
          have a2 := h6a.c2
          have a3 := h6a.c3
          have a4 := h6a.c4
          have a5 := h6a.c5
          have b0 := h6b.c0
          have b1 := h6b.c1
          have b2 := h6b.c2
          have b3 := h6b.c3
          have b4 := h6b.c4
          have b5 := h6b.c5
          clear hat2 hat2' h6a h6b hbk
          replace hlp := block_lt a0
          replace hlp' := block_lt b0
          have hcbN := fun N => hcb (w3.drewN N) ⟨hb3.os, hb3.tape, hb3.output, hb3.size, hb3.block⟩
          go_wp2_with fail
          go_region_held3 (fun w' => w'.cell? ⟨w.heap.size, 4, none⟩ = some (.slice (some ⟨pb, po, none⟩) m pc) ∧ w'.cell? ⟨pb, po + i * 6, none⟩ = some (.int .i64 (f i).k) ∧ w'.cell? ⟨pb, po + i * 6 + 1, none⟩ = some (.bool (f i).b) ∧ w'.cell? ⟨pb, po + i * 6 + 2, none⟩ = some (.int .i64 (f i).n) ∧ w'.cell? ⟨pb, po + i * 6 + 3, none⟩ = some (.string (f i).s) ∧ w'.cell? ⟨pb, po + i * 6 + 4, none⟩ = some (.slice (A i).pa (f i).m (A i).pc) ∧ w'.cell? ⟨pb, po + i * 6 + 5, none⟩ = some (.slice (A i).na (f i).q (A i).nc) ∧ w'.cell? ⟨w.heap.size + 1, 4, none⟩ = some (.slice (some ⟨pb', po', none⟩) m' pc') ∧ w'.cell? ⟨pb', po' + i * 6, none⟩ = some (.int .i64 (f' i).k) ∧ w'.cell? ⟨pb', po' + i * 6 + 1, none⟩ = some (.bool (f' i).b) ∧ w'.cell? ⟨pb', po' + i * 6 + 2, none⟩ = some (.int .i64 (f' i).n) ∧ w'.cell? ⟨pb', po' + i * 6 + 3, none⟩ = some (.string (f' i).s) ∧ w'.cell? ⟨pb', po' + i * 6 + 4, none⟩ = some (.slice (A' i).pa (f' i).m (A' i).pc) ∧ w'.cell? ⟨pb', po' + i * 6 + 5, none⟩ = some (.slice (A' i).na (f' i).q (A' i).nc)) (first | go_keep | exact ⟨cell_kept c4 (hbk _ hl2), cell_kept a0 (hbk _ hlp), cell_kept a1 (hbk _ hlp), cell_kept a2 (hbk _ hlp), cell_kept a3 (hbk _ hlp), cell_kept a4 (hbk _ hlp), cell_kept a5 (hbk _ hlp), cell_kept d4 (hbk _ hl1), cell_kept b0 (hbk _ hlp'), cell_kept b1 (hbk _ hlp'), cell_kept b2 (hbk _ hlp'), cell_kept b3 (hbk _ hlp'), cell_kept b4 (hbk _ hlp'), cell_kept b5 (hbk _ hlp')⟩) (first | (go_at_call 18; refine (hcbN _).mono ?_; rintro e w4 ⟨rfl, hb4⟩; have hbk : ∀ k, k < w3.heap.size → w4.heap[k]? = w3.heap[k]? := hb4.block))
          replace hb4 : Below w3.heap.size w3 w4 := ⟨hb4.os, hb4.tape, hb4.output, hb4.size, hb4.block⟩
          clear c4 d4 a0 a1 a2 a3 a4 a5 b0 b1 b2 b3 b4 b5
          cases Y with
          | true =>
            go_wp2
            go_ret
            have e : R = false := HPT.out (HN3.out (Or.inr (by trivial)))
            rw [e]
            exact ⟨rfl, (hbf.trans (hb3.mono (by omega))).trans (hb4.mono (by omega))⟩
          | false =>
            have hke : keyT (f i) = keyT (f' i) := by
              rcases lt8_total (keyT (f i)) (keyT (f' i)) with h | h | h
              · rw [HX.out] at h; cases h
              · exact h
              · rw [HY.out] at h; cases h
            have hpe : partF 6 f g i = partF 6 f' g' i := by
              unfold partF
              rw [if_pos (by decide), if_pos (by decide), hke, HEQ.out]
            have HPE : Hid (partF 6 f g i = partF 6 f' g' i) := hpe
            clear hke hpe
            go_wp2
            go_roundw
            case rel =>
              refine ⟨i + 1, by omega, by omega, by go_num, fun j hj => ?_, (hbw.trans (hb3.mono (by omega))).trans (hb4.mono (by omega))⟩
              rcases Nat.lt_or_ge j i with k1 | k1
              · exact HJ.out j k1
              · obtain rfl : j = i := by omega
                exact HPE.out
            case measure => simp [intOf]; omega
    · have hend : R = decide (m < m') := by
        rw [← HRW.out]
        refine row_end (fun i => ⟨_, rfl⟩) (fun i => ⟨_, rfl⟩) (fun j hj => HJ.out j ?_)
        omega
      have HEND : Hid (R = decide (m < m')) := hend
      clear hend
      by_cases him : i < m
      · have hin : (i : Int) < (m : Int) := by omega
        have hin' : ¬ (i : Int) < (m' : Int) := by omega
        go_wp2
        go_ret
        rw [HEND.out]
        exact ⟨rfl, hbf⟩
      · have hin : ¬ (i : Int) < (m : Int) := by omega
        go_wp2
        go_ret
        rw [HEND.out]
        exact ⟨rfl, hbf⟩
theorem formed_m {k : Int} {b : Bool} {n : Int} {s : ByteArray} {m q : Nat} (h : formedB k b n s m q = true) (h5 : k < 5) : m = 0 := by
  unfold formedB at h
  simp only [Bool.and_eq_true, Bool.or_eq_true, decide_eq_true_eq] at h
  omega
theorem bef_all (a : Tr) : ∀ (b : Tr) (d d' : Int), soundT a d = 0 → soundT b d' = 0 → BefC a b ∧ BefC b a := by
  induction a with
  | no => exact fun b _ _ _ _ => ⟨fun _ _ _ _ hL => hL.no.elim, fun _ _ _ _ _ hL => hL.no.elim⟩
  | mk k bo n s m f q g ih =>
    intro b d d' ha hb
    cases b with
    | no => exact ⟨fun _ _ _ _ _ hL => hL.no.elim, fun _ _ _ _ hL => hL.no.elim⟩
    | mk k' bo' n' s' m' f' q' g' =>
      have hP := soundP ha
      have hQ := soundP hb
      have h0 := hP.k0
      have h6 := hP.k6
      have h0' := hQ.k0
      have h6' := hQ.k6
      by_cases hk : k = k'
      · subst hk
        have hi := fun i (hi : i < m) (hi' : i < m') => ih i (f' i) _ _ (hP.ch i hi) (hQ.ch i hi')
        obtain rfl | rfl | rfl | rfl | rfl | rfl | rfl : k = 0 ∨ k = 1 ∨ k = 2 ∨ k = 3 ∨ k = 4 ∨ k = 5 ∨ k = 6 := by omega
        · have e1 := formed_m hP.fm (by decide)
          have e2 := formed_m hQ.fm (by decide)
          exact ⟨bef_0 e1 e2, bef_0 e2 e1⟩
        · exact ⟨bef_1, bef_1⟩
        · exact ⟨bef_2, bef_2⟩
        · exact ⟨bef_3, bef_3⟩
        · exact ⟨bef_4, bef_4⟩
        · exact ⟨bef_5 hP.m32 hP.ch hQ.ch hi, bef_5 hQ.m32 hQ.ch hP.ch (fun i h1 h2 => (hi i h2 h1).symm)⟩
        · exact ⟨bef_6 hP.m32 hP.ch hQ.ch (hP.nm rfl).1 (hQ.nm rfl).1 hi, bef_6 hQ.m32 hQ.ch hP.ch (hQ.nm rfl).1 (hP.nm rfl).1 (fun i h1 h2 => (hi i h2 h1).symm)⟩
      · exact ⟨bef_kind h0 h6 h0' h6' hk, bef_kind h0' h6' h0 h6 (fun e => hk e.symm)⟩
set_option maxRecDepth 100000 in
set_option maxHeartbeats 4000000 in
theorem same_any {a b : Tr} {d d' : Int} (ha : soundT a d = 0) (hb : soundT b d' = 0) {B : Nat} {w : World} {x y : Ad} (hL : Lies B w a x) (hM : Lies B w b y) (hB : B ≤ w.heap.size) :
    Calls Tryd.prog 17 #[a.val x, b.val y] w fun e w' => e = .returned (.bool (decide (keyT a = keyT b))) ∧ Below w.heap.size w w' := by
  have h1 := fun (W : World) (hb1 : Below w.heap.size w W) => (bef_all a b d d' ha hb).1 B W x y (hL.later (hb1.mono hB)) (hM.later (hb1.mono hB)) (by have := hb1.size; omega)
  have h2 := fun (W : World) (hb1 : Below w.heap.size w W) => (bef_all a b d d' ha hb).2 B W y x (hM.later (hb1.mono hB)) (hL.later (hb1.mono hB)) (by have := hb1.size; omega)
  have hV : a.val x = .agg #[.int .i64 a.k, .bool a.b, .int .i64 a.n, .string a.s, .slice x.pa a.m x.pc, .slice x.na a.q x.nc] := rfl
  have hV' : b.val y = .agg #[.int .i64 b.k, .bool b.b, .int .i64 b.n, .string b.s, .slice y.pa b.m y.pc, .slice y.na b.q y.nc] := rfl
  rw [hV, hV'] at h1 h2 ⊢
  have hR : decide (keyT a = keyT b) = (!lt8 (keyT a) (keyT b) && !lt8 (keyT b) (keyT a)) := by
    rcases lt8_total (keyT a) (keyT b) with h | h | h
    · rw [decide_eq_false (lt8_ne h), h]; rfl
    · rw [h, lt8_irrefl]; simp
    · rw [decide_eq_false (fun e => lt8_ne h e.symm), h, lt8_asymm h]; rfl
  rw [hR]
  obtain ⟨X, hX⟩ : ∃ X, lt8 (keyT a) (keyT b) = X := ⟨_, rfl⟩
  obtain ⟨Y, hY⟩ : ∃ Y, lt8 (keyT b) (keyT a) = Y := ⟨_, rfl⟩
  rw [hX] at h1 ⊢
  rw [hY] at h2 ⊢
  clear hX hY hR hV hV'
  have hbel : Below w.heap.size w ((w.alloc (.cells #[.int .i64 a.k, .bool a.b, .int .i64 a.n, .string a.s, .slice x.pa a.m x.pc, .slice x.na a.q x.nc] 34)).alloc (.cells #[.int .i64 b.k, .bool b.b, .int .i64 b.n, .string b.s, .slice y.pa b.m y.pc, .slice y.na b.q y.nc] 34)) := ((Below.refl _ w).alloc (Nat.le_refl _) _).alloc (by simp) _
  have hrow := (Below.heap_alloc (w.alloc (.cells #[.int .i64 a.k, .bool a.b, .int .i64 a.n, .string a.s, .slice x.pa a.m x.pc, .slice x.na a.q x.nc] 34)) (.cells #[.int .i64 b.k, .bool b.b, .int .i64 b.n, .string b.s, .slice y.pa b.m y.pc, .slice y.na b.q y.nc] 34) w.heap.size (by simp)).trans (fresh_row w #[.int .i64 a.k, .bool a.b, .int .i64 a.n, .string a.s, .slice x.pa a.m x.pc, .slice x.na a.q x.nc] 34)
  have hrow' := fresh_row (w.alloc (.cells #[.int .i64 a.k, .bool a.b, .int .i64 a.n, .string a.s, .slice x.pa a.m x.pc, .slice x.na a.q x.nc] 34)) #[.int .i64 b.k, .bool b.b, .int .i64 b.n, .string b.s, .slice y.pa b.m y.pc, .slice y.na b.q y.nc] 34
  have hs1 : (w.alloc (.cells #[.int .i64 a.k, .bool a.b, .int .i64 a.n, .string a.s, .slice x.pa a.m x.pc, .slice x.na a.q x.nc] 34)).heap.size = w.heap.size + 1 := by simp
  rw [hs1] at hrow'
  cases X with
  | true =>
    go_enter Tryd.func17, Tryd.ntmps17
    go_wp2_with fail
    refine (h1 _ hbel).mono ?_
    rintro e w1 ⟨rfl, hb1⟩
    go_wp2
    go_ret
    exact ⟨rfl, hbel.trans (hb1.mono hbel.size)⟩
  | false =>
    go_enter Tryd.func17, Tryd.ntmps17
    go_wp2_with fail
    refine (h1 _ hbel).mono ?_
    rintro e w1 ⟨rfl, hb1⟩
    have hr1 := (hb1.block _ (lt_of_row hrow)).trans hrow
    have hr1' := (hb1.block _ (lt_of_row hrow')).trans hrow'
    have c0 := cell_of_row w1 _ 0 _ _ _ hr1
    have c1 := cell_of_row w1 _ 1 _ _ _ hr1
    have c2 := cell_of_row w1 _ 2 _ _ _ hr1
    have c3 := cell_of_row w1 _ 3 _ _ _ hr1
    have c4 := cell_of_row w1 _ 4 _ _ _ hr1
    have c5 := cell_of_row w1 _ 5 _ _ _ hr1
    have d0 := cell_of_row w1 _ 0 _ _ _ hr1'
    have d1 := cell_of_row w1 _ 1 _ _ _ hr1'
    have d2 := cell_of_row w1 _ 2 _ _ _ hr1'
    have d3 := cell_of_row w1 _ 3 _ _ _ hr1'
    have d4 := cell_of_row w1 _ 4 _ _ _ hr1'
    have d5 := cell_of_row w1 _ 5 _ _ _ hr1'
    have hbw1 : Below w.heap.size w w1 := hbel.trans (hb1.mono hbel.size)
    clear hb1
    go_wp2_with fail
    refine (h2 _ hbw1).mono ?_
    rintro e w2 ⟨rfl, hb2⟩
    go_wp2
    go_ret
    exact ⟨by cases Y <;> rfl, hbw1.trans (hb2.mono hbw1.size)⟩
end Go.Proofs.YtaacbcnpagpdnaaDoor
