/- The document's key (Key), of any sound value. A value that is not too great (Cut): its tree, and where it lies; a long text, too many parts. -/
import Derived.Test.YtfemippjaokcmaaGreatDoorXat
import Derived.Test.YtfemippjaokcmaaGreatDoorXas
import Derived.Deep.RegionHeld3
import Derived.Deep.RegionLaw
import Derived.BigGuardPart
namespace Go.Proofs.YtfemippjaokcmaaGreatDoor.V
open Go.RowKit
def KeyC (t : Tr) : Prop := ∀ (B : Nat) (w : World) (x : Ad), Lies B w t x → B ≤ w.heap.size → (keyT t).length ≤ 900000 →
    Calls Tryz.prog 18 #[t.val x] w fun e w' => e = .returned (.string ⟨(keyT t).toArray⟩) ∧ Below w.heap.size w w'
set_option maxRecDepth 100000 in
set_option maxHeartbeats 4000000 in
theorem dkey_0 {bo : Bool} {n : Int} {s : ByteArray} {m : Nat} {f : Nat → Tr} {q : Nat} {g : Nat → ByteArray} : KeyC (.mk 0 bo n s m f q g) := by
  intro B w x hL hB hl
  have hlim := hL.lims
  replace hlim : (-9223372036854775808 ≤ n ∧ n < 9223372036854775808) ∧ Names B w q g x.na x.nc := ⟨hlim.2.1, hlim.2.2.2.2⟩
  obtain ⟨pa, pc, na, nc⟩ := x
  have hV : (Tr.mk 0 bo n s m f q g).val ⟨pa, pc, na, nc⟩ = .agg #[.int .i64 0, .bool bo, .int .i64 n, .string s, .slice pa m pc, .slice na q nc] := rfl
  have hT : keyT (.mk 0 bo n s m f q g) = [0] ++ [] := by simp [keyT]
  rw [hT] at hl
  obtain ⟨KT, hK⟩ : ∃ KT, keyT (.mk 0 bo n s m f q g) = KT := ⟨_, rfl⟩
  rw [hK] at hT ⊢
  have HT : Hid (KT = [0] ++ []) := hT
  have HLL : Hid (([0] ++ []).length ≤ 900000) := hl
  rw [hV]
  clear hT hK hl
  have hbel : Below w.heap.size w ((w.alloc (.cells #[.int .i64 0, .bool bo, .int .i64 n, .string s, .slice pa m pc, .slice na q nc] 46)).alloc (.cells #[.int .u8 0] 5)) := ((Below.refl _ w).alloc (Nat.le_refl _) _).alloc (by simp) _
  have hrow := (Below.heap_alloc (w.alloc (.cells #[.int .i64 0, .bool bo, .int .i64 n, .string s, .slice pa m pc, .slice na q nc] 46)) (.cells #[.int .u8 0] 5) w.heap.size (by simp)).trans (fresh_row w #[.int .i64 0, .bool bo, .int .i64 n, .string s, .slice pa m pc, .slice na q nc] 46)
  have hr1 := fresh_row (w.alloc (.cells #[.int .i64 0, .bool bo, .int .i64 n, .string s, .slice pa m pc, .slice na q nc] 46)) #[.int .u8 0] 5
  have hs1 : (w.alloc (.cells #[.int .i64 0, .bool bo, .int .i64 n, .string s, .slice pa m pc, .slice na q nc] 46)).heap.size = w.heap.size + 1 := by simp
  rw [hs1] at hr1
  have hcv := conv1w _ (w.heap.size + 1) 0 0 (by decide) (cell_of_row _ _ 0 _ _ _ hr1)
  have hs2 : ((w.alloc (.cells #[.int .i64 0, .bool bo, .int .i64 n, .string s, .slice pa m pc, .slice na q nc] 46)).alloc (.cells #[.int .u8 0] 5)).heap.size = w.heap.size + 1 + 1 := by simp
  obtain ⟨W, hW⟩ : ∃ W, (w.alloc (.cells #[.int .i64 0, .bool bo, .int .i64 n, .string s, .slice pa m pc, .slice na q nc] 46)).alloc (.cells #[.int .u8 0] 5) = W := ⟨_, rfl⟩
  rw [hW] at hbel hrow hcv hs2
  clear hr1 hs1
  have c0 := cell_of_row W _ 0 _ _ _ hrow
  have c1 := cell_of_row W _ 1 _ _ _ hrow
  have c2 := cell_of_row W _ 2 _ _ _ hrow
  have c3 := cell_of_row W _ 3 _ _ _ hrow
  have c4 := cell_of_row W _ 4 _ _ _ hrow
  have c5 := cell_of_row W _ 5 _ _ _ hrow
  go_enter Tryz.func18, Tryz.ntmps18
  go_wp2
  go_ret
  have e : (⟨#[0]⟩ : ByteArray) = ⟨KT.toArray⟩ := by rw [HT.out]; rfl
  rw [e]
  exact ⟨rfl, hbel⟩
set_option maxRecDepth 100000 in
set_option maxHeartbeats 4000000 in
theorem dkey_1 {bo : Bool} {n : Int} {s : ByteArray} {m : Nat} {f : Nat → Tr} {q : Nat} {g : Nat → ByteArray} : KeyC (.mk 1 bo n s m f q g) := by
  intro B w x hL hB hl
  have hlim := hL.lims
  replace hlim : (-9223372036854775808 ≤ n ∧ n < 9223372036854775808) ∧ Names B w q g x.na x.nc := ⟨hlim.2.1, hlim.2.2.2.2⟩
  obtain ⟨pa, pc, na, nc⟩ := x
  have hV : (Tr.mk 1 bo n s m f q g).val ⟨pa, pc, na, nc⟩ = .agg #[.int .i64 1, .bool bo, .int .i64 n, .string s, .slice pa m pc, .slice na q nc] := rfl
  have hT : keyT (.mk 1 bo n s m f q g) = [1] ++ [if bo then 1 else 0] := by simp [keyT]
  rw [hT] at hl
  obtain ⟨KT, hK⟩ : ∃ KT, keyT (.mk 1 bo n s m f q g) = KT := ⟨_, rfl⟩
  rw [hK] at hT ⊢
  have HT : Hid (KT = [1] ++ [if bo then 1 else 0]) := hT
  have HLL : Hid (([1] ++ [if bo then 1 else 0]).length ≤ 900000) := hl
  rw [hV]
  clear hT hK hl
  have hbel : Below w.heap.size w ((w.alloc (.cells #[.int .i64 1, .bool bo, .int .i64 n, .string s, .slice pa m pc, .slice na q nc] 46)).alloc (.cells #[.int .u8 1] 5)) := ((Below.refl _ w).alloc (Nat.le_refl _) _).alloc (by simp) _
  have hrow := (Below.heap_alloc (w.alloc (.cells #[.int .i64 1, .bool bo, .int .i64 n, .string s, .slice pa m pc, .slice na q nc] 46)) (.cells #[.int .u8 1] 5) w.heap.size (by simp)).trans (fresh_row w #[.int .i64 1, .bool bo, .int .i64 n, .string s, .slice pa m pc, .slice na q nc] 46)
  have hr1 := fresh_row (w.alloc (.cells #[.int .i64 1, .bool bo, .int .i64 n, .string s, .slice pa m pc, .slice na q nc] 46)) #[.int .u8 1] 5
  have hs1 : (w.alloc (.cells #[.int .i64 1, .bool bo, .int .i64 n, .string s, .slice pa m pc, .slice na q nc] 46)).heap.size = w.heap.size + 1 := by simp
  rw [hs1] at hr1
  have hcv := conv1w _ (w.heap.size + 1) 1 1 (by decide) (cell_of_row _ _ 0 _ _ _ hr1)
  have hs2 : ((w.alloc (.cells #[.int .i64 1, .bool bo, .int .i64 n, .string s, .slice pa m pc, .slice na q nc] 46)).alloc (.cells #[.int .u8 1] 5)).heap.size = w.heap.size + 1 + 1 := by simp
  obtain ⟨W, hW⟩ : ∃ W, (w.alloc (.cells #[.int .i64 1, .bool bo, .int .i64 n, .string s, .slice pa m pc, .slice na q nc] 46)).alloc (.cells #[.int .u8 1] 5) = W := ⟨_, rfl⟩
  rw [hW] at hbel hrow hcv hs2
  clear hr1 hs1
  have c0 := cell_of_row W _ 0 _ _ _ hrow
  have c1 := cell_of_row W _ 1 _ _ _ hrow
  have c2 := cell_of_row W _ 2 _ _ _ hrow
  have c3 := cell_of_row W _ 3 _ _ _ hrow
  have c4 := cell_of_row W _ 4 _ _ _ hrow
  have c5 := cell_of_row W _ 5 _ _ _ hrow
  cases bo with
  | true =>
    go_enter Tryz.func18, Tryz.ntmps18
    go_wp2
    go_ret
    have e : (⟨#[1]⟩ : ByteArray) ++ ⟨#[1]⟩ = ⟨KT.toArray⟩ := by rw [HT.out]; rfl
    rw [e]
    exact ⟨rfl, hbel⟩
  | false =>
    go_enter Tryz.func18, Tryz.ntmps18
    go_wp2
    go_ret
    have e : (⟨#[1]⟩ : ByteArray) ++ ⟨#[0]⟩ = ⟨KT.toArray⟩ := by rw [HT.out]; rfl
    rw [e]
    exact ⟨rfl, hbel⟩
set_option maxRecDepth 100000 in
set_option maxHeartbeats 4000000 in
theorem dkey_2 {bo : Bool} {n : Int} {s : ByteArray} {m : Nat} {f : Nat → Tr} {q : Nat} {g : Nat → ByteArray} : KeyC (.mk 2 bo n s m f q g) := by
  intro B w x hL hB hl
  have hlim := hL.lims
  replace hlim : (-9223372036854775808 ≤ n ∧ n < 9223372036854775808) ∧ Names B w q g x.na x.nc := ⟨hlim.2.1, hlim.2.2.2.2⟩
  obtain ⟨pa, pc, na, nc⟩ := x
  have hV : (Tr.mk 2 bo n s m f q g).val ⟨pa, pc, na, nc⟩ = .agg #[.int .i64 2, .bool bo, .int .i64 n, .string s, .slice pa m pc, .slice na q nc] := rfl
  have hT : keyT (.mk 2 bo n s m f q g) = [2] ++ be8 (turnN n) := by simp [keyT]
  rw [hT] at hl
  obtain ⟨KT, hK⟩ : ∃ KT, keyT (.mk 2 bo n s m f q g) = KT := ⟨_, rfl⟩
  rw [hK] at hT ⊢
  have HT : Hid (KT = [2] ++ be8 (turnN n)) := hT
  have HLL : Hid (([2] ++ be8 (turnN n)).length ≤ 900000) := hl
  rw [hV]
  clear hT hK hl
  have hbel : Below w.heap.size w ((w.alloc (.cells #[.int .i64 2, .bool bo, .int .i64 n, .string s, .slice pa m pc, .slice na q nc] 46)).alloc (.cells #[.int .u8 2] 5)) := ((Below.refl _ w).alloc (Nat.le_refl _) _).alloc (by simp) _
  have hrow := (Below.heap_alloc (w.alloc (.cells #[.int .i64 2, .bool bo, .int .i64 n, .string s, .slice pa m pc, .slice na q nc] 46)) (.cells #[.int .u8 2] 5) w.heap.size (by simp)).trans (fresh_row w #[.int .i64 2, .bool bo, .int .i64 n, .string s, .slice pa m pc, .slice na q nc] 46)
  have hr1 := fresh_row (w.alloc (.cells #[.int .i64 2, .bool bo, .int .i64 n, .string s, .slice pa m pc, .slice na q nc] 46)) #[.int .u8 2] 5
  have hs1 : (w.alloc (.cells #[.int .i64 2, .bool bo, .int .i64 n, .string s, .slice pa m pc, .slice na q nc] 46)).heap.size = w.heap.size + 1 := by simp
  rw [hs1] at hr1
  have hcv := conv1w _ (w.heap.size + 1) 2 2 (by decide) (cell_of_row _ _ 0 _ _ _ hr1)
  have hs2 : ((w.alloc (.cells #[.int .i64 2, .bool bo, .int .i64 n, .string s, .slice pa m pc, .slice na q nc] 46)).alloc (.cells #[.int .u8 2] 5)).heap.size = w.heap.size + 1 + 1 := by simp
  obtain ⟨W, hW⟩ : ∃ W, (w.alloc (.cells #[.int .i64 2, .bool bo, .int .i64 n, .string s, .slice pa m pc, .slice na q nc] 46)).alloc (.cells #[.int .u8 2] 5) = W := ⟨_, rfl⟩
  rw [hW] at hbel hrow hcv hs2
  clear hr1 hs1
  have c0 := cell_of_row W _ 0 _ _ _ hrow
  have c1 := cell_of_row W _ 1 _ _ _ hrow
  have c2 := cell_of_row W _ 2 _ _ _ hrow
  have c3 := cell_of_row W _ 3 _ _ _ hrow
  have c4 := cell_of_row W _ 4 _ _ _ hrow
  have c5 := cell_of_row W _ 5 _ _ _ hrow
  have htl := turnN_lt hlim.1.2
  have htn : IntKind.u64.wrap (IntKind.u64.wrap n + 9223372036854775808) = (turnN n : Int) := by
    have h1 := hlim.1
    rw [IntKind.wrap_u64, IntKind.wrap_u64]
    unfold turnN
    omega
  have h8 : (⟨(be8 (turnN n)).toArray⟩ : ByteArray).size = 8 := by show (be8 (turnN n)).toArray.size = 8; rw [List.size_toArray, be8_len]
  have h8t := fun W => eight_any (turnN n) htl W
  obtain ⟨U, hU⟩ : ∃ U : ByteArray, (⟨(be8 (turnN n)).toArray⟩ : ByteArray) = U := ⟨_, rfl⟩
  have HU : Hid (U.data.toList = be8 (turnN n)) := by show _ = _; rw [← hU]
  rw [hU] at h8 h8t
  have hz : ¬ 9223372036854775807 < (⟨#[2]⟩ : ByteArray).size + U.size := by have h1 : (⟨#[2]⟩ : ByteArray).size = 1 := rfl; omega
  have hz2 : ¬ 9223372036854775807 < 1 + U.size := by omega
  clear hU h8
  go_enter Tryz.func18, Tryz.ntmps18
  go_wp2_with fail
  refine (h8t _).mono ?_
  rintro e w2 ⟨rfl, hb2⟩
  clear hcv hW
  go_wp2
  go_ret
  have e : (⟨#[2]⟩ : ByteArray) ++ U = ⟨KT.toArray⟩ := by
    refine of_list ?_
    rw [HT.out, cat_list, HU.out]
  rw [e]
  exact ⟨rfl, hbel.trans (hb2.mono (by omega))⟩
set_option maxRecDepth 100000 in
set_option maxHeartbeats 4000000 in
theorem dkey_3 {bo : Bool} {n : Int} {s : ByteArray} {m : Nat} {f : Nat → Tr} {q : Nat} {g : Nat → ByteArray} (hsz : s.size ≤ 4096) : KeyC (.mk 3 bo n s m f q g) := by
  intro B w x hL hB hl
  have hlim := hL.lims
  replace hlim : (-9223372036854775808 ≤ n ∧ n < 9223372036854775808) ∧ Names B w q g x.na x.nc := ⟨hlim.2.1, hlim.2.2.2.2⟩
  obtain ⟨pa, pc, na, nc⟩ := x
  have hV : (Tr.mk 3 bo n s m f q g).val ⟨pa, pc, na, nc⟩ = .agg #[.int .i64 3, .bool bo, .int .i64 n, .string s, .slice pa m pc, .slice na q nc] := rfl
  have hT : keyT (.mk 3 bo n s m f q g) = [3] ++ ktextL s := by simp [keyT]
  rw [hT] at hl
  obtain ⟨KT, hK⟩ : ∃ KT, keyT (.mk 3 bo n s m f q g) = KT := ⟨_, rfl⟩
  rw [hK] at hT ⊢
  have HT : Hid (KT = [3] ++ ktextL s) := hT
  have HLL : Hid (([3] ++ ktextL s).length ≤ 900000) := hl
  rw [hV]
  clear hT hK hl
  have hbel : Below w.heap.size w ((w.alloc (.cells #[.int .i64 3, .bool bo, .int .i64 n, .string s, .slice pa m pc, .slice na q nc] 46)).alloc (.cells #[.int .u8 3] 5)) := ((Below.refl _ w).alloc (Nat.le_refl _) _).alloc (by simp) _
  have hrow := (Below.heap_alloc (w.alloc (.cells #[.int .i64 3, .bool bo, .int .i64 n, .string s, .slice pa m pc, .slice na q nc] 46)) (.cells #[.int .u8 3] 5) w.heap.size (by simp)).trans (fresh_row w #[.int .i64 3, .bool bo, .int .i64 n, .string s, .slice pa m pc, .slice na q nc] 46)
  have hr1 := fresh_row (w.alloc (.cells #[.int .i64 3, .bool bo, .int .i64 n, .string s, .slice pa m pc, .slice na q nc] 46)) #[.int .u8 3] 5
  have hs1 : (w.alloc (.cells #[.int .i64 3, .bool bo, .int .i64 n, .string s, .slice pa m pc, .slice na q nc] 46)).heap.size = w.heap.size + 1 := by simp
  rw [hs1] at hr1
  have hcv := conv1w _ (w.heap.size + 1) 3 3 (by decide) (cell_of_row _ _ 0 _ _ _ hr1)
  have hs2 : ((w.alloc (.cells #[.int .i64 3, .bool bo, .int .i64 n, .string s, .slice pa m pc, .slice na q nc] 46)).alloc (.cells #[.int .u8 3] 5)).heap.size = w.heap.size + 1 + 1 := by simp
  obtain ⟨W, hW⟩ : ∃ W, (w.alloc (.cells #[.int .i64 3, .bool bo, .int .i64 n, .string s, .slice pa m pc, .slice na q nc] 46)).alloc (.cells #[.int .u8 3] 5) = W := ⟨_, rfl⟩
  rw [hW] at hbel hrow hcv hs2
  clear hr1 hs1
  have c0 := cell_of_row W _ 0 _ _ _ hrow
  have c1 := cell_of_row W _ 1 _ _ _ hrow
  have c2 := cell_of_row W _ 2 _ _ _ hrow
  have c3 := cell_of_row W _ 3 _ _ _ hrow
  have c4 := cell_of_row W _ 4 _ _ _ hrow
  have c5 := cell_of_row W _ 5 _ _ _ hrow
  have hkl := ktextL_len s
  have h8t := fun W => dtext_any s hsz W
  obtain ⟨U, hU⟩ : ∃ U : ByteArray, (⟨(ktextL s).toArray⟩ : ByteArray) = U := ⟨_, rfl⟩
  have HU : Hid (U.data.toList = ktextL s) := by show _ = _; rw [← hU]
  have h8 := size_list HU.out
  rw [hU] at h8t
  have hz : ¬ 9223372036854775807 < (⟨#[3]⟩ : ByteArray).size + U.size := by have h1 : (⟨#[3]⟩ : ByteArray).size = 1 := rfl; omega
  have hz2 : ¬ 9223372036854775807 < 1 + U.size := by omega
  clear hU h8
  go_enter Tryz.func18, Tryz.ntmps18
  go_wp2_with fail
  refine (h8t _).mono ?_
  rintro e w2 ⟨rfl, rfl⟩
  clear hcv hW
  go_wp2
  go_ret
  have e : (⟨#[3]⟩ : ByteArray) ++ U = ⟨KT.toArray⟩ := by
    refine of_list ?_
    rw [HT.out, cat_list, HU.out]
  rw [e]
  exact ⟨rfl, hbel⟩
set_option maxRecDepth 100000 in
set_option maxHeartbeats 4000000 in
theorem dkey_4 {bo : Bool} {n : Int} {s : ByteArray} {m : Nat} {f : Nat → Tr} {q : Nat} {g : Nat → ByteArray} (hsz : s.size ≤ 4096) : KeyC (.mk 4 bo n s m f q g) := by
  intro B w x hL hB hl
  have hlim := hL.lims
  replace hlim : (-9223372036854775808 ≤ n ∧ n < 9223372036854775808) ∧ Names B w q g x.na x.nc := ⟨hlim.2.1, hlim.2.2.2.2⟩
  obtain ⟨pa, pc, na, nc⟩ := x
  have hV : (Tr.mk 4 bo n s m f q g).val ⟨pa, pc, na, nc⟩ = .agg #[.int .i64 4, .bool bo, .int .i64 n, .string s, .slice pa m pc, .slice na q nc] := rfl
  have hT : keyT (.mk 4 bo n s m f q g) = [4] ++ ktextL s := by simp [keyT]
  rw [hT] at hl
  obtain ⟨KT, hK⟩ : ∃ KT, keyT (.mk 4 bo n s m f q g) = KT := ⟨_, rfl⟩
  rw [hK] at hT ⊢
  have HT : Hid (KT = [4] ++ ktextL s) := hT
  have HLL : Hid (([4] ++ ktextL s).length ≤ 900000) := hl
  rw [hV]
  clear hT hK hl
  have hbel : Below w.heap.size w ((w.alloc (.cells #[.int .i64 4, .bool bo, .int .i64 n, .string s, .slice pa m pc, .slice na q nc] 46)).alloc (.cells #[.int .u8 4] 5)) := ((Below.refl _ w).alloc (Nat.le_refl _) _).alloc (by simp) _
  have hrow := (Below.heap_alloc (w.alloc (.cells #[.int .i64 4, .bool bo, .int .i64 n, .string s, .slice pa m pc, .slice na q nc] 46)) (.cells #[.int .u8 4] 5) w.heap.size (by simp)).trans (fresh_row w #[.int .i64 4, .bool bo, .int .i64 n, .string s, .slice pa m pc, .slice na q nc] 46)
  have hr1 := fresh_row (w.alloc (.cells #[.int .i64 4, .bool bo, .int .i64 n, .string s, .slice pa m pc, .slice na q nc] 46)) #[.int .u8 4] 5
  have hs1 : (w.alloc (.cells #[.int .i64 4, .bool bo, .int .i64 n, .string s, .slice pa m pc, .slice na q nc] 46)).heap.size = w.heap.size + 1 := by simp
  rw [hs1] at hr1
  have hcv := conv1w _ (w.heap.size + 1) 4 4 (by decide) (cell_of_row _ _ 0 _ _ _ hr1)
  have hs2 : ((w.alloc (.cells #[.int .i64 4, .bool bo, .int .i64 n, .string s, .slice pa m pc, .slice na q nc] 46)).alloc (.cells #[.int .u8 4] 5)).heap.size = w.heap.size + 1 + 1 := by simp
  obtain ⟨W, hW⟩ : ∃ W, (w.alloc (.cells #[.int .i64 4, .bool bo, .int .i64 n, .string s, .slice pa m pc, .slice na q nc] 46)).alloc (.cells #[.int .u8 4] 5) = W := ⟨_, rfl⟩
  rw [hW] at hbel hrow hcv hs2
  clear hr1 hs1
  have c0 := cell_of_row W _ 0 _ _ _ hrow
  have c1 := cell_of_row W _ 1 _ _ _ hrow
  have c2 := cell_of_row W _ 2 _ _ _ hrow
  have c3 := cell_of_row W _ 3 _ _ _ hrow
  have c4 := cell_of_row W _ 4 _ _ _ hrow
  have c5 := cell_of_row W _ 5 _ _ _ hrow
  have hkl := ktextL_len s
  have h8t := fun W => dtext_any s hsz W
  obtain ⟨U, hU⟩ : ∃ U : ByteArray, (⟨(ktextL s).toArray⟩ : ByteArray) = U := ⟨_, rfl⟩
  have HU : Hid (U.data.toList = ktextL s) := by show _ = _; rw [← hU]
  have h8 := size_list HU.out
  rw [hU] at h8t
  have hz : ¬ 9223372036854775807 < (⟨#[4]⟩ : ByteArray).size + U.size := by have h1 : (⟨#[4]⟩ : ByteArray).size = 1 := rfl; omega
  have hz2 : ¬ 9223372036854775807 < 1 + U.size := by omega
  clear hU h8
  go_enter Tryz.func18, Tryz.ntmps18
  go_wp2_with fail
  refine (h8t _).mono ?_
  rintro e w2 ⟨rfl, rfl⟩
  clear hcv hW
  go_wp2
  go_ret
  have e : (⟨#[4]⟩ : ByteArray) ++ U = ⟨KT.toArray⟩ := by
    refine of_list ?_
    rw [HT.out, cat_list, HU.out]
  rw [e]
  exact ⟨rfl, hbel⟩
set_option maxRecDepth 100000 in
set_option maxHeartbeats 4000000 in
theorem dkey_5 {bo : Bool} {n : Int} {s : ByteArray} {m : Nat} {f : Nat → Tr} {q : Nat} {g : Nat → ByteArray} (hm : m ≤ 32) (ih : ∀ i, i < m → KeyC (f i)) : KeyC (.mk 5 bo n s m f q g) := by
  intro B w x hL hB hl
  obtain ⟨A, hp, hr⟩ := hL.part
  have hlim := hL.lims
  replace hlim : (-9223372036854775808 ≤ n ∧ n < 9223372036854775808) ∧ Names B w q g x.na x.nc := ⟨hlim.2.1, hlim.2.2.2.2⟩
  obtain ⟨pa, pc, na, nc⟩ := x
  have hV : (Tr.mk 5 bo n s m f q g).val ⟨pa, pc, na, nc⟩ = .agg #[.int .i64 5, .bool bo, .int .i64 n, .string s, .slice pa m pc, .slice na q nc] := rfl
  have hT : keyT (.mk 5 bo n s m f q g) = [5] ++ (cat m (fun i => 1 :: ((if (5 : Int) = 6 then ktextL (g i) else []) ++ keyT (f i))) ++ [0]) := by rw [keyT]; simp
  rw [hT] at hl
  obtain ⟨KT, hK⟩ : ∃ KT, keyT (.mk 5 bo n s m f q g) = KT := ⟨_, rfl⟩
  rw [hK] at hT ⊢
  have HT : Hid (KT = [5] ++ (cat m (fun i => 1 :: ((if (5 : Int) = 6 then ktextL (g i) else []) ++ keyT (f i))) ++ [0])) := hT
  have HLL : Hid (([5] ++ (cat m (fun i => 1 :: ((if (5 : Int) = 6 then ktextL (g i) else []) ++ keyT (f i))) ++ [0])).length ≤ 900000) := hl
  rw [hV]
  clear hT hK hl
  obtain ⟨F, hF⟩ : ∃ F : Nat → List UInt8, (fun i => 1 :: ((if (5 : Int) = 6 then ktextL (g i) else []) ++ keyT (f i))) = F := ⟨_, rfl⟩
  rw [hF] at HT HLL
  have HF : Hid (∀ i, F i = 1 :: ((if (5 : Int) = 6 then ktextL (g i) else []) ++ keyT (f i))) := fun i => by rw [← hF]
  clear hF
  have HI : Hid (∀ i, i < m → KeyC (f i)) := ih
  have HP : Hid (0 < m → ∃ b o, pa = some ⟨b, o, none⟩ ∧ b < B ∧ ∀ i, i < m → At6 w b (o + i * 6) (f i) (A i)) := hp
  have HR : Hid (∀ i, i < m → Lies B w (f i) (A i)) := hr
  have HN : Hid (Names B w q g na nc) := hlim.2
  clear ih hp hr hlim
  have hbel : Below w.heap.size w ((w.alloc (.cells #[.int .i64 5, .bool bo, .int .i64 n, .string s, .slice pa m pc, .slice na q nc] 46)).alloc (.cells #[.int .u8 5] 5)) := ((Below.refl _ w).alloc (Nat.le_refl _) _).alloc (by simp) _
  have hrow := (Below.heap_alloc (w.alloc (.cells #[.int .i64 5, .bool bo, .int .i64 n, .string s, .slice pa m pc, .slice na q nc] 46)) (.cells #[.int .u8 5] 5) w.heap.size (by simp)).trans (fresh_row w #[.int .i64 5, .bool bo, .int .i64 n, .string s, .slice pa m pc, .slice na q nc] 46)
  have hr1 := fresh_row (w.alloc (.cells #[.int .i64 5, .bool bo, .int .i64 n, .string s, .slice pa m pc, .slice na q nc] 46)) #[.int .u8 5] 5
  have hs1 : (w.alloc (.cells #[.int .i64 5, .bool bo, .int .i64 n, .string s, .slice pa m pc, .slice na q nc] 46)).heap.size = w.heap.size + 1 := by simp
  rw [hs1] at hr1
  have hcv := conv1w _ (w.heap.size + 1) 5 5 (by decide) (cell_of_row _ _ 0 _ _ _ hr1)
  have hs2 : ((w.alloc (.cells #[.int .i64 5, .bool bo, .int .i64 n, .string s, .slice pa m pc, .slice na q nc] 46)).alloc (.cells #[.int .u8 5] 5)).heap.size = w.heap.size + 1 + 1 := by simp
  obtain ⟨W, hW⟩ : ∃ W, (w.alloc (.cells #[.int .i64 5, .bool bo, .int .i64 n, .string s, .slice pa m pc, .slice na q nc] 46)).alloc (.cells #[.int .u8 5] 5) = W := ⟨_, rfl⟩
  rw [hW] at hbel hrow hcv hs2
  clear hr1 hs1
  have c0 := cell_of_row W _ 0 _ _ _ hrow
  have c1 := cell_of_row W _ 1 _ _ _ hrow
  have c2 := cell_of_row W _ 2 _ _ _ hrow
  have c3 := cell_of_row W _ 3 _ _ _ hrow
  have c4 := cell_of_row W _ 4 _ _ _ hrow
  have c5 := cell_of_row W _ 5 _ _ _ hrow
  clear c0 c1 c2 c3 c4 c5
  have c0 := cell_of_row W _ 0 _ _ _ hrow
  go_enter Tryz.func18, Tryz.ntmps18
  go_wp2_with fail
  clear c0 hcv hW
  go_loopw [3, 4] (fun c3 c4 wr => ∃ (i : Nat) (S : ByteArray), i ≤ m ∧ c4 = .int .i64 (i : Int) ∧ c3 = .string S ∧ S.data.toList = [5] ++ cat i F ∧ wr.heap[w.heap.size]? = some (.cells #[.int .i64 5, .bool bo, .int .i64 n, .string s, .slice pa m pc, .slice na q nc] 46 (0, 0)) ∧ Below w.heap.size w wr) (fun _ c4 _ => m - (intOf c4).toNat)
  case atStart => exact ⟨0, ⟨#[5]⟩, by omega, rfl, rfl, rfl, hrow, hbel⟩
  case round =>
    clear hrow hbel hs2
    obtain ⟨i, S, hi, rfl, rfl, hS, hrow, hbw⟩ := hrel
    have HS : Hid (S.data.toList = [5] ++ cat i F) := hS
    have hSs := size_list hS
    clear hS
    have c0 := cell_of_row wr _ 0 _ _ _ hrow
    have c4 := cell_of_row wr _ 4 _ _ _ hrow
    have c5 := cell_of_row wr _ 5 _ _ _ hrow
    have hwl := lt_of_row hrow
    by_cases him : i < m
    · have him' : (i : Int) < (m : Int) := by omega
      have hlen : S.size + (F i).length + 1 ≤ 900001 := by
        have h1 := HLL.out
        obtain ⟨y, hy⟩ := cat_more F (show i + 1 ≤ m by omega)
        rw [hy, show cat (i + 1) F = cat i F ++ F i from rfl] at h1
        rw [hSs]
        simp only [List.length_append, List.length_cons, List.length_nil] at h1 ⊢
        omega
      clear hSs
      have hfl : (F i).length = 1 + (if (5 : Int) = 6 then ktextL (g i) else []).length + (keyT (f i)).length := by rw [HF.out i]; simp; omega
      obtain ⟨pb, po, rfl, hpb, hat⟩ := HP.out (by omega)
      have hz : ¬ 9223372036854775807 < S.size + (⟨#[1]⟩ : ByteArray).size := by have h1 : (⟨#[1]⟩ : ByteArray).size = 1 := rfl; omega
      have hz2 : ¬ 9223372036854775807 < S.size + 1 := by omega
      obtain ⟨S1, hS1⟩ : ∃ S1, S ++ ⟨#[1]⟩ = S1 := ⟨_, rfl⟩
      have HS1 : Hid (S1.data.toList = [5] ++ cat i F ++ [1]) := by show _ = _; rw [← hS1, cat_list, HS.out]
      have hs1z : S1.size = S.size + 1 := by rw [← hS1, ByteArray.size_append]; rfl
      rw [if_neg (by decide)] at hfl
      simp only [List.length_nil, Nat.add_zero] at hfl
      obtain ⟨S2, hS2⟩ : ∃ S2, S1 = S2 := ⟨_, rfl⟩
      have HS2 : Hid (S2.data.toList = [5] ++ cat i F ++ [1]) := by show _ = _; rw [← hS2]; exact HS1.out
      have hs2k : S2.size + (keyT (f i)).length ≤ 900001 := by rw [← hS2]; omega
      clear hs1z
      have h6a := (hat i him).later hpb (hbw.mono hB)
      have d0 := h6a.c0
      have d1 := h6a.c1
      have d2 := h6a.c2
      have d3 := h6a.c3
      have d4 := h6a.c4
      have d5 := h6a.c5
      clear hat h6a
      have hLi := (HR.out i him).later (hbw.mono hB)
      have hkc := HI.out i him B wr (A i) hLi (by omega) (by omega)
      have hVi : (f i).val (A i) = .agg #[.int .i64 (f i).k, .bool (f i).b, .int .i64 (f i).n, .string (f i).s, .slice (A i).pa (f i).m (A i).pc, .slice (A i).na (f i).q (A i).nc] := rfl
      rw [hVi] at hkc
      obtain ⟨Y, hY⟩ : ∃ Y : ByteArray, (⟨(keyT (f i)).toArray⟩ : ByteArray) = Y := ⟨_, rfl⟩
      have HY : Hid (Y.data.toList = keyT (f i)) := by show _ = _; rw [← hY]
      have hYs := size_list HY.out
      rw [hY] at hkc
      have hz5 : ¬ 9223372036854775807 < S2.size + Y.size := by omega
      clear hY hYs hVi
      go_wp2_with fail
      refine hkc.mono ?_
      rintro e w4 ⟨rfl, hb4⟩
      have hrow4 := (hb4.block _ hwl).trans hrow
      have hbw4 := hbw.trans (hb4.mono (by omega))
      go_wp2
      go_roundw
      case rel =>
        refine ⟨i + 1, _, by omega, by go_num, rfl, ?_, hrow4, hbw4⟩
        rw [cat_list, HS2.out, HY.out, show cat (i + 1) F = cat i F ++ F i from rfl, HF.out i]
        rw [if_neg (by decide)]
        simp
      case measure => simp [intOf]; omega
    · obtain rfl : m = i := by omega
      have hz : ¬ 9223372036854775807 < S.size + (⟨#[0]⟩ : ByteArray).size := by
        have h1 : (⟨#[0]⟩ : ByteArray).size = 1 := rfl
        have h2 := HLL.out
        simp only [List.length_append, List.length_cons, List.length_nil] at h2 hSs
        omega
      clear hSs
      go_wp2
      go_ret
      have e : S ++ ⟨#[0]⟩ = ⟨KT.toArray⟩ := by
        refine of_list ?_
        rw [HT.out, cat_list, HS.out, List.append_assoc]
      rw [e]
      exact ⟨rfl, hbw⟩
set_option maxRecDepth 100000 in
set_option maxHeartbeats 4000000 in
theorem dkey_6 {bo : Bool} {n : Int} {s : ByteArray} {m : Nat} {f : Nat → Tr} {q : Nat} {g : Nat → ByteArray} (hm : m ≤ 32) (hq : q = m ∧ ∀ i, i < q → okN g i = true) (ih : ∀ i, i < m → KeyC (f i)) : KeyC (.mk 6 bo n s m f q g) := by
  intro B w x hL hB hl
  have HQ : Hid (q = m ∧ ∀ i, i < q → okN g i = true) := hq
  clear hq
  obtain ⟨A, hp, hr⟩ := hL.part
  have hlim := hL.lims
  replace hlim : (-9223372036854775808 ≤ n ∧ n < 9223372036854775808) ∧ Names B w q g x.na x.nc := ⟨hlim.2.1, hlim.2.2.2.2⟩
  obtain ⟨pa, pc, na, nc⟩ := x
  have hV : (Tr.mk 6 bo n s m f q g).val ⟨pa, pc, na, nc⟩ = .agg #[.int .i64 6, .bool bo, .int .i64 n, .string s, .slice pa m pc, .slice na q nc] := rfl
  have hT : keyT (.mk 6 bo n s m f q g) = [6] ++ (cat m (fun i => 1 :: ((if (6 : Int) = 6 then ktextL (g i) else []) ++ keyT (f i))) ++ [0]) := by rw [keyT]; simp
  rw [hT] at hl
  obtain ⟨KT, hK⟩ : ∃ KT, keyT (.mk 6 bo n s m f q g) = KT := ⟨_, rfl⟩
  rw [hK] at hT ⊢
  have HT : Hid (KT = [6] ++ (cat m (fun i => 1 :: ((if (6 : Int) = 6 then ktextL (g i) else []) ++ keyT (f i))) ++ [0])) := hT
  have HLL : Hid (([6] ++ (cat m (fun i => 1 :: ((if (6 : Int) = 6 then ktextL (g i) else []) ++ keyT (f i))) ++ [0])).length ≤ 900000) := hl
  rw [hV]
  clear hT hK hl
  obtain ⟨F, hF⟩ : ∃ F : Nat → List UInt8, (fun i => 1 :: ((if (6 : Int) = 6 then ktextL (g i) else []) ++ keyT (f i))) = F := ⟨_, rfl⟩
  rw [hF] at HT HLL
  have HF : Hid (∀ i, F i = 1 :: ((if (6 : Int) = 6 then ktextL (g i) else []) ++ keyT (f i))) := fun i => by rw [← hF]
  clear hF
  have HI : Hid (∀ i, i < m → KeyC (f i)) := ih
  have HP : Hid (0 < m → ∃ b o, pa = some ⟨b, o, none⟩ ∧ b < B ∧ ∀ i, i < m → At6 w b (o + i * 6) (f i) (A i)) := hp
  have HR : Hid (∀ i, i < m → Lies B w (f i) (A i)) := hr
  have HN : Hid (Names B w q g na nc) := hlim.2
  clear ih hp hr hlim
  have hbel : Below w.heap.size w ((w.alloc (.cells #[.int .i64 6, .bool bo, .int .i64 n, .string s, .slice pa m pc, .slice na q nc] 46)).alloc (.cells #[.int .u8 6] 5)) := ((Below.refl _ w).alloc (Nat.le_refl _) _).alloc (by simp) _
  have hrow := (Below.heap_alloc (w.alloc (.cells #[.int .i64 6, .bool bo, .int .i64 n, .string s, .slice pa m pc, .slice na q nc] 46)) (.cells #[.int .u8 6] 5) w.heap.size (by simp)).trans (fresh_row w #[.int .i64 6, .bool bo, .int .i64 n, .string s, .slice pa m pc, .slice na q nc] 46)
  have hr1 := fresh_row (w.alloc (.cells #[.int .i64 6, .bool bo, .int .i64 n, .string s, .slice pa m pc, .slice na q nc] 46)) #[.int .u8 6] 5
  have hs1 : (w.alloc (.cells #[.int .i64 6, .bool bo, .int .i64 n, .string s, .slice pa m pc, .slice na q nc] 46)).heap.size = w.heap.size + 1 := by simp
  rw [hs1] at hr1
  have hcv := conv1w _ (w.heap.size + 1) 6 6 (by decide) (cell_of_row _ _ 0 _ _ _ hr1)
  have hs2 : ((w.alloc (.cells #[.int .i64 6, .bool bo, .int .i64 n, .string s, .slice pa m pc, .slice na q nc] 46)).alloc (.cells #[.int .u8 6] 5)).heap.size = w.heap.size + 1 + 1 := by simp
  obtain ⟨W, hW⟩ : ∃ W, (w.alloc (.cells #[.int .i64 6, .bool bo, .int .i64 n, .string s, .slice pa m pc, .slice na q nc] 46)).alloc (.cells #[.int .u8 6] 5) = W := ⟨_, rfl⟩
  rw [hW] at hbel hrow hcv hs2
  clear hr1 hs1
  have c0 := cell_of_row W _ 0 _ _ _ hrow
  have c1 := cell_of_row W _ 1 _ _ _ hrow
  have c2 := cell_of_row W _ 2 _ _ _ hrow
  have c3 := cell_of_row W _ 3 _ _ _ hrow
  have c4 := cell_of_row W _ 4 _ _ _ hrow
  have c5 := cell_of_row W _ 5 _ _ _ hrow
  clear c0 c1 c2 c3 c4 c5
  have c0 := cell_of_row W _ 0 _ _ _ hrow
  go_enter Tryz.func18, Tryz.ntmps18
  go_wp2_with fail
  clear c0 hcv hW
  go_loopw [3, 4] (fun c3 c4 wr => ∃ (i : Nat) (S : ByteArray), i ≤ m ∧ c4 = .int .i64 (i : Int) ∧ c3 = .string S ∧ S.data.toList = [6] ++ cat i F ∧ wr.heap[w.heap.size]? = some (.cells #[.int .i64 6, .bool bo, .int .i64 n, .string s, .slice pa m pc, .slice na q nc] 46 (0, 0)) ∧ Below w.heap.size w wr) (fun _ c4 _ => m - (intOf c4).toNat)
  case atStart => exact ⟨0, ⟨#[6]⟩, by omega, rfl, rfl, rfl, hrow, hbel⟩
  case round =>
    clear hrow hbel hs2
    obtain ⟨i, S, hi, rfl, rfl, hS, hrow, hbw⟩ := hrel
    have HS : Hid (S.data.toList = [6] ++ cat i F) := hS
    have hSs := size_list hS
    clear hS
    have c0 := cell_of_row wr _ 0 _ _ _ hrow
    have c4 := cell_of_row wr _ 4 _ _ _ hrow
    have c5 := cell_of_row wr _ 5 _ _ _ hrow
    have hwl := lt_of_row hrow
    by_cases him : i < m
    · have him' : (i : Int) < (m : Int) := by omega
      have hlen : S.size + (F i).length + 1 ≤ 900001 := by
        have h1 := HLL.out
        obtain ⟨y, hy⟩ := cat_more F (show i + 1 ≤ m by omega)
        rw [hy, show cat (i + 1) F = cat i F ++ F i from rfl] at h1
        rw [hSs]
        simp only [List.length_append, List.length_cons, List.length_nil] at h1 ⊢
        omega
      clear hSs
      have hfl : (F i).length = 1 + (if (6 : Int) = 6 then ktextL (g i) else []).length + (keyT (f i)).length := by rw [HF.out i]; simp; omega
      obtain ⟨pb, po, rfl, hpb, hat⟩ := HP.out (by omega)
      have hz : ¬ 9223372036854775807 < S.size + (⟨#[1]⟩ : ByteArray).size := by have h1 : (⟨#[1]⟩ : ByteArray).size = 1 := rfl; omega
      have hz2 : ¬ 9223372036854775807 < S.size + 1 := by omega
      obtain ⟨S1, hS1⟩ : ∃ S1, S ++ ⟨#[1]⟩ = S1 := ⟨_, rfl⟩
      have HS1 : Hid (S1.data.toList = [6] ++ cat i F ++ [1]) := by show _ = _; rw [← hS1, cat_list, HS.out]
      have hs1z : S1.size = S.size + 1 := by rw [← hS1, ByteArray.size_append]; rfl
      rw [if_pos (by decide)] at hfl
      have hqi : i < q := by have := HQ.out.1; omega
      have hgs := okN_size (HQ.out.2 i hqi)
      obtain ⟨nb, no, rfl, hnb, hng⟩ := HN.out.2.2.2 (by omega)
      have hnc := cell_later (hng i (by omega)) hnb (hbw.mono hB)
      have hiq : (i : Int) < (q : Int) := by omega
      clear hng
      have hkt := ktextL_len (g i)
      obtain ⟨U, hU⟩ : ∃ U : ByteArray, (⟨(ktextL (g i)).toArray⟩ : ByteArray) = U := ⟨_, rfl⟩
      have HU : Hid (U.data.toList = ktextL (g i)) := by show _ = _; rw [← hU]
      have hUs := size_list HU.out
      have htx := fun W => dtext_any (g i) (by omega) W
      rw [hU] at htx
      have hz3 : ¬ 9223372036854775807 < S1.size + U.size := by omega
      obtain ⟨S2, hS2⟩ : ∃ S2, S1 ++ U = S2 := ⟨_, rfl⟩
      have HS2 : Hid (S2.data.toList = [6] ++ cat i F ++ [1] ++ ktextL (g i)) := by show _ = _; rw [← hS2, cat_list, HS1.out, HU.out]
      have hs2z : S2.size = S1.size + (ktextL (g i)).length := by rw [← hS2, ByteArray.size_append, hUs]
      have hs2k : S2.size + (keyT (f i)).length ≤ 900001 := by omega
      clear hU hUs hs1z hs2z
      have h6a := (hat i him).later hpb (hbw.mono hB)
      have d0 := h6a.c0
      have d1 := h6a.c1
      have d2 := h6a.c2
      have d3 := h6a.c3
      have d4 := h6a.c4
      have d5 := h6a.c5
      clear hat h6a
      have hLi := (HR.out i him).later (hbw.mono hB)
      have hkc := HI.out i him B wr (A i) hLi (by omega) (by omega)
      have hVi : (f i).val (A i) = .agg #[.int .i64 (f i).k, .bool (f i).b, .int .i64 (f i).n, .string (f i).s, .slice (A i).pa (f i).m (A i).pc, .slice (A i).na (f i).q (A i).nc] := rfl
      rw [hVi] at hkc
      obtain ⟨Y, hY⟩ : ∃ Y : ByteArray, (⟨(keyT (f i)).toArray⟩ : ByteArray) = Y := ⟨_, rfl⟩
      have HY : Hid (Y.data.toList = keyT (f i)) := by show _ = _; rw [← hY]
      have hYs := size_list HY.out
      rw [hY] at hkc
      have hz5 : ¬ 9223372036854775807 < S2.size + Y.size := by omega
      clear hY hYs hVi
      go_wp2_with fail
      refine (htx _).mono ?_
      rintro e w2 ⟨rfl, rfl⟩
      go_wp2_with fail
      refine hkc.mono ?_
      rintro e w4 ⟨rfl, hb4⟩
      have hrow4 := (hb4.block _ hwl).trans hrow
      have hbw4 := hbw.trans (hb4.mono (by omega))
      go_wp2
      go_roundw
      case rel =>
        refine ⟨i + 1, _, by omega, by go_num, rfl, ?_, hrow4, hbw4⟩
        rw [cat_list, HS2.out, HY.out, show cat (i + 1) F = cat i F ++ F i from rfl, HF.out i]
        rw [if_pos (by decide)]
        simp
      case measure => simp [intOf]; omega
    · obtain rfl : m = i := by omega
      have hz : ¬ 9223372036854775807 < S.size + (⟨#[0]⟩ : ByteArray).size := by
        have h1 : (⟨#[0]⟩ : ByteArray).size = 1 := rfl
        have h2 := HLL.out
        simp only [List.length_append, List.length_cons, List.length_nil] at h2 hSs
        omega
      clear hSs
      go_wp2
      go_ret
      have e : S ++ ⟨#[0]⟩ = ⟨KT.toArray⟩ := by
        refine of_list ?_
        rw [HT.out, cat_list, HS.out, List.append_assoc]
      rw [e]
      exact ⟨rfl, hbw⟩
set_option maxRecDepth 100000 in
theorem dkey_all (t : Tr) : ∀ d, soundT t d = 0 → small t → KeyC t := by
  induction t with
  | no => exact fun _ _ _ _ _ _ hL => hL.no.elim
  | mk k b n s m f q g ih =>
    intro d hS hsm
    have hP := soundP hS
    have hc : ∀ i, i < m → KeyC (f i) := fun i hi => ih i (d + 1) (hP.ch i hi) (hsm.2 i hi)
    have h0 := hP.k0
    have h6 := hP.k6
    obtain rfl | rfl | rfl | rfl | rfl | rfl | rfl : k = 0 ∨ k = 1 ∨ k = 2 ∨ k = 3 ∨ k = 4 ∨ k = 5 ∨ k = 6 := by omega
    · exact dkey_0
    · exact dkey_1
    · exact dkey_2
    · exact dkey_3 hsm.1
    · exact dkey_4 hsm.1
    · exact dkey_5 hP.m32 hc
    · exact dkey_6 hP.m32 (hP.nm rfl) hc
end Go.Proofs.YtfemippjaokcmaaGreatDoor.V
namespace Go.Proofs.YtfemippjaokcmaaGreatDoor.V
open Go.RowKit
set_option maxRecDepth 100000 in
theorem cs_one (t : Tr) (x : Ad) : ∀ u ∈ t.cs x, u.oneCell' = true := by
  intro u hu
  simp only [Tr.cs, List.mem_cons, List.not_mem_nil, or_false] at hu
  rcases hu with rfl | rfl | rfl | rfl | rfl | rfl <;> rfl
set_option maxRecDepth 100000 in
theorem far_row {w1 w2 : World} {o : Obj} {v : Value} {base : Nat} (hgr : (w1.alloc o).grownBy w2 v.ownBlock) (hge : ∀ k, v.ownBlock = some k → base ≤ k) {k : Nat} {u : Obj} (h : w1.heap[k]? = some u) (hlt : k < base) : w2.heap[k]? = some u := by
  have hl := lt_of_row h
  rw [hgr.block k (by simp; omega) (fun he => by have := hge k he.symm; omega), Below.heap_alloc w1 o k hl]
  exact h
set_option maxRecDepth 100000 in
theorem far_cell {w1 w2 : World} {o : Obj} {v : Value} {base : Nat} (hgr : (w1.alloc o).grownBy w2 v.ownBlock) (hge : ∀ k, v.ownBlock = some k → base ≤ k) {a : Addr} {u : Value} (h : w1.cell? a = some u) (hlt : a.block < base) : w2.cell? a = some u := by
  have hl := block_lt h
  refine cell_kept h ?_
  rw [hgr.block a.block (by simp; omega) (fun he => by have := hge _ he.symm; omega), Below.heap_alloc w1 o a.block hl]
set_option maxRecDepth 100000 in
theorem lies_alloc {S : Nat → Prop} {w : World} {t : Tr} {x : Ad} (h : LiesS S w t x) (hS : ∀ k, S k → k < w.heap.size) (o : Obj) : LiesS S (w.alloc o) t x := h.kept (fun k hk => Below.heap_alloc w o k (hS k hk))
end Go.Proofs.YtfemippjaokcmaaGreatDoor.V
