/- A sound value's bytes behind others (put), of each kind; and of any sound value. A value's bytes, or why it has none (Encode, Check). A sound value's key has at most nine times as many bytes as the value; a cut value's texts are short. -/
import Derived.Test.YtfemippjaokcmaaGreatDoorXac
import Derived.Test.YtfemippjaokcmaaGreatDoorXad
import Derived.Test.YtfemippjaokcmaaGreatDoorXae
import Derived.Test.YtfemippjaokcmaaGreatDoorXag
import GoSem.Op.String
import Derived.RegionTactic
import Derived.StillTailTactics
import Derived.Test.YtfemippjaokcmaaGreatDoorXaa
namespace Go.Proofs.YtfemippjaokcmaaGreatDoor.V
open Go.RowKit
set_option maxRecDepth 100000 in
set_option maxHeartbeats 4000000 in
theorem put_0 {bo : Bool} {n : Int} {s : ByteArray} {m : Nat} {f : Nat -> Tr} {q : Nat} {g : Nat -> ByteArray} {d : Int} (_hS : SoundP 0 bo n s m f q g d) (_hsm : s.size <= 4096) : PutC (.mk 0 bo n s m f q g) d := by
  intro B w x b l hL hB hbl hl
  have hlim := hL.lims
  replace hlim : -9223372036854775808 <= n /\ n < 9223372036854775808 := hlim.2.1
  have hkb : IntKind.u8.wrap 0 = ((UInt8.ofNat (0 : Int).toNat).toNat : Int) := kindByte (by decide) (by decide)
  have hb0 := hbl.lt
  obtain ⟨pa, pc, na, nc⟩ := x
  have hV : (Tr.mk 0 bo n s m f q g).val ⟨pa, pc, na, nc⟩ = .agg #[.int .i64 0, .bool bo, .int .i64 n, .string s, .slice pa m pc, .slice na q nc] := rfl
  have hbel : Below w.heap.size w (w.alloc (.cells #[.int .i64 0, .bool bo, .int .i64 n, .string s, .slice pa m pc, .slice na q nc] 25)) := (Below.refl _ w).alloc (Nat.le_refl _) _
  have hrow := fresh_row w #[.int .i64 0, .bool bo, .int .i64 n, .string s, .slice pa m pc, .slice na q nc] 25
  have hby := fun W hW => b_byte b l (UInt8.ofNat (0 : Int).toNat) W hW (by omega) _ hkb
  rw [hV]
  clear hkb
  go_enter Tryz.func63, Tryz.ntmps63
  go_wp2_with fail
  refine (hby _ (hbl.later hbel)).mono ?_
  rintro e w1 ⟨rfl, hbl1, hbb1, ht1⟩
  replace hrow := ht1.block _ _ _ _ (by decide) (by decide) hrow
  have hbb : Below b w w1 := (hbel.mono (by omega)).trans hbb1
  have ht : Tame w w1 := (Tame.ofBelow hbel).trans ht1
  clear hbb1 ht1
  have c0 := cell_of_row w1 _ 0 _ _ _ hrow
  have c1 := cell_of_row w1 _ 1 _ _ _ hrow
  have c2 := cell_of_row w1 _ 2 _ _ _ hrow
  have c3 := cell_of_row w1 _ 3 _ _ _ hrow
  have c4 := cell_of_row w1 _ 4 _ _ _ hrow
  have c5 := cell_of_row w1 _ 5 _ _ _ hrow
  go_wp2
  go_end0
  have hT : bytesT (.mk 0 bo n s m f q g) = [UInt8.ofNat (0 : Int).toNat] := by simp [bytesT]
  rw [hT]
  exact ⟨rfl, ⟨_, hbl1, Aft.all _ _, by simp; omega⟩, hbb, ht⟩
set_option maxRecDepth 100000 in
set_option maxHeartbeats 4000000 in
theorem put_1 {bo : Bool} {n : Int} {s : ByteArray} {m : Nat} {f : Nat -> Tr} {q : Nat} {g : Nat -> ByteArray} {d : Int} (hS : SoundP 1 bo n s m f q g d) (_hsm : s.size <= 4096) : PutC (.mk 1 bo n s m f q g) d := by
  intro B w x b l hL hB hbl hl
  have hlim := hL.lims
  replace hlim : -9223372036854775808 <= n /\ n < 9223372036854775808 := hlim.2.1
  have hkb : IntKind.u8.wrap 1 = ((UInt8.ofNat (1 : Int).toNat).toNat : Int) := kindByte (by decide) (by decide)
  have hb0 := hbl.lt
  obtain ⟨pa, pc, na, nc⟩ := x
  have hV : (Tr.mk 1 bo n s m f q g).val ⟨pa, pc, na, nc⟩ = .agg #[.int .i64 1, .bool bo, .int .i64 n, .string s, .slice pa m pc, .slice na q nc] := rfl
  have hbel : Below w.heap.size w (w.alloc (.cells #[.int .i64 1, .bool bo, .int .i64 n, .string s, .slice pa m pc, .slice na q nc] 25)) := (Below.refl _ w).alloc (Nat.le_refl _) _
  have hrow := fresh_row w #[.int .i64 1, .bool bo, .int .i64 n, .string s, .slice pa m pc, .slice na q nc] 25
  have hby := fun W hW => b_byte b l (UInt8.ofNat (1 : Int).toNat) W hW (by omega) _ hkb
  rw [hV]
  clear hkb
  go_enter Tryz.func63, Tryz.ntmps63
  go_wp2_with fail
  refine (hby _ (hbl.later hbel)).mono ?_
  rintro e w1 ⟨rfl, hbl1, hbb1, ht1⟩
  replace hrow := ht1.block _ _ _ _ (by decide) (by decide) hrow
  have hbb : Below b w w1 := (hbel.mono (by omega)).trans hbb1
  have ht : Tame w w1 := (Tame.ofBelow hbel).trans ht1
  clear hbb1 ht1
  have c0 := cell_of_row w1 _ 0 _ _ _ hrow
  have c1 := cell_of_row w1 _ 1 _ _ _ hrow
  have c2 := cell_of_row w1 _ 2 _ _ _ hrow
  have c3 := cell_of_row w1 _ 3 _ _ _ hrow
  have c4 := cell_of_row w1 _ 4 _ _ _ hrow
  have c5 := cell_of_row w1 _ 5 _ _ _ hrow
  go_wp2_with fail
  refine (ebool_any bo _).mono ?_
  rintro e w1 ⟨rfl, rfl⟩
  have hlt := lt_of_row hrow
  go_wp2_with fail
  refine (b_text b _ (boolB bo) _ hbl1 (by simp; omega) (by rw [boolB_size]; decide)).mono ?_
  rintro e w3 ⟨rfl, hbl3, hbb3, ht3⟩
  go_wp2
  go_end0
  have hT : bytesT (.mk 1 bo n s m f q g) = [UInt8.ofNat (1 : Int).toNat] ++ [if bo then 1 else 0] := by simp [bytesT]
  rw [hT]
  refine ⟨rfl, ⟨_, hbl3, ?_, ?_⟩, hbb.trans hbb3, ht.trans ht3⟩
  . rw [List.append_assoc]
    rw [show (boolB bo).data.toList = [if bo then 1 else 0] by cases bo <;> rfl]
    exact Aft.all _ _
  . rw [List.length_append, List.length_append, <- Lib.size_eq]
    rw [boolB_size]; simp; omega
set_option maxRecDepth 100000 in
set_option maxHeartbeats 4000000 in
theorem put_2 {bo : Bool} {n : Int} {s : ByteArray} {m : Nat} {f : Nat -> Tr} {q : Nat} {g : Nat -> ByteArray} {d : Int} (_hS : SoundP 2 bo n s m f q g d) (_hsm : s.size <= 4096) : PutC (.mk 2 bo n s m f q g) d := by
  intro B w x b l hL hB hbl hl
  have hlim := hL.lims
  replace hlim : -9223372036854775808 <= n /\ n < 9223372036854775808 := hlim.2.1
  have hkb : IntKind.u8.wrap 2 = ((UInt8.ofNat (2 : Int).toNat).toNat : Int) := kindByte (by decide) (by decide)
  have hb0 := hbl.lt
  obtain ⟨pa, pc, na, nc⟩ := x
  have hV : (Tr.mk 2 bo n s m f q g).val ⟨pa, pc, na, nc⟩ = .agg #[.int .i64 2, .bool bo, .int .i64 n, .string s, .slice pa m pc, .slice na q nc] := rfl
  have hbel : Below w.heap.size w (w.alloc (.cells #[.int .i64 2, .bool bo, .int .i64 n, .string s, .slice pa m pc, .slice na q nc] 25)) := (Below.refl _ w).alloc (Nat.le_refl _) _
  have hrow := fresh_row w #[.int .i64 2, .bool bo, .int .i64 n, .string s, .slice pa m pc, .slice na q nc] 25
  have hby := fun W hW => b_byte b l (UInt8.ofNat (2 : Int).toNat) W hW (by omega) _ hkb
  rw [hV]
  clear hkb
  go_enter Tryz.func63, Tryz.ntmps63
  go_wp2_with fail
  refine (hby _ (hbl.later hbel)).mono ?_
  rintro e w1 ⟨rfl, hbl1, hbb1, ht1⟩
  replace hrow := ht1.block _ _ _ _ (by decide) (by decide) hrow
  have hbb : Below b w w1 := (hbel.mono (by omega)).trans hbb1
  have ht : Tame w w1 := (Tame.ofBelow hbel).trans ht1
  clear hbb1 ht1
  have c0 := cell_of_row w1 _ 0 _ _ _ hrow
  have c1 := cell_of_row w1 _ 1 _ _ _ hrow
  have c2 := cell_of_row w1 _ 2 _ _ _ hrow
  have c3 := cell_of_row w1 _ 3 _ _ _ hrow
  have c4 := cell_of_row w1 _ 4 _ _ _ hrow
  have c5 := cell_of_row w1 _ 5 _ _ _ hrow
  go_wp2_with fail
  refine (eint_any n hlim.1 hlim.2 _).mono ?_
  rintro e w2 ⟨rfl, hb2⟩
  have hlt := lt_of_row hrow
  go_wp2_with fail
  refine (b_text b _ ⟨(put (zig n)).toArray⟩ _ (hbl1.later hb2) (by simp; omega) (by rw [put_size]; have := put_len10 (zig_lt hlim.1 hlim.2); omega)).mono ?_
  rintro e w3 ⟨rfl, hbl3, hbb3, ht3⟩
  go_wp2
  go_end0
  have hT : bytesT (.mk 2 bo n s m f q g) = [UInt8.ofNat (2 : Int).toNat] ++ put (zig n) := by simp [bytesT]
  rw [hT]
  refine ⟨rfl, ⟨_, hbl3, ?_, ?_⟩, (hbb.trans (hb2.mono (by omega))).trans hbb3, (ht.trans (Tame.ofBelow hb2)).trans ht3⟩
  . rw [List.append_assoc]
    exact Aft.all _ _
  . rw [List.length_append, List.length_append]
    have := put_len10 (zig_lt hlim.1 hlim.2); simp; omega
set_option maxRecDepth 100000 in
set_option maxHeartbeats 4000000 in
theorem put_3 {bo : Bool} {n : Int} {s : ByteArray} {m : Nat} {f : Nat -> Tr} {q : Nat} {g : Nat -> ByteArray} {d : Int} (_hS : SoundP 3 bo n s m f q g d) (hsm : s.size <= 4096) : PutC (.mk 3 bo n s m f q g) d := by
  intro B w x b l hL hB hbl hl
  have hlim := hL.lims
  replace hlim : -9223372036854775808 <= n /\ n < 9223372036854775808 := hlim.2.1
  have hkb : IntKind.u8.wrap 3 = ((UInt8.ofNat (3 : Int).toNat).toNat : Int) := kindByte (by decide) (by decide)
  have hb0 := hbl.lt
  obtain ⟨pa, pc, na, nc⟩ := x
  have hV : (Tr.mk 3 bo n s m f q g).val ⟨pa, pc, na, nc⟩ = .agg #[.int .i64 3, .bool bo, .int .i64 n, .string s, .slice pa m pc, .slice na q nc] := rfl
  have hbel : Below w.heap.size w (w.alloc (.cells #[.int .i64 3, .bool bo, .int .i64 n, .string s, .slice pa m pc, .slice na q nc] 25)) := (Below.refl _ w).alloc (Nat.le_refl _) _
  have hrow := fresh_row w #[.int .i64 3, .bool bo, .int .i64 n, .string s, .slice pa m pc, .slice na q nc] 25
  have hby := fun W hW => b_byte b l (UInt8.ofNat (3 : Int).toNat) W hW (by omega) _ hkb
  rw [hV]
  clear hkb
  go_enter Tryz.func63, Tryz.ntmps63
  go_wp2_with fail
  refine (hby _ (hbl.later hbel)).mono ?_
  rintro e w1 ⟨rfl, hbl1, hbb1, ht1⟩
  replace hrow := ht1.block _ _ _ _ (by decide) (by decide) hrow
  have hbb : Below b w w1 := (hbel.mono (by omega)).trans hbb1
  have ht : Tame w w1 := (Tame.ofBelow hbel).trans ht1
  clear hbb1 ht1
  have c0 := cell_of_row w1 _ 0 _ _ _ hrow
  have c1 := cell_of_row w1 _ 1 _ _ _ hrow
  have c2 := cell_of_row w1 _ 2 _ _ _ hrow
  have c3 := cell_of_row w1 _ 3 _ _ _ hrow
  have c4 := cell_of_row w1 _ 4 _ _ _ hrow
  have c5 := cell_of_row w1 _ 5 _ _ _ hrow
  go_wp2_with fail
  refine (etext_any s (by omega) _).mono ?_
  rintro e w2 ⟨rfl, hb2⟩
  have hlt := lt_of_row hrow
  go_wp2_with fail
  refine (b_text b _ (textB s) _ (hbl1.later hb2) (by simp; omega) (by have := textB_size s hsm; omega)).mono ?_
  rintro e w3 ⟨rfl, hbl3, hbb3, ht3⟩
  go_wp2
  go_end0
  have hT : bytesT (.mk 3 bo n s m f q g) = [UInt8.ofNat (3 : Int).toNat] ++ textL s := by simp [bytesT]
  rw [hT]
  refine ⟨rfl, ⟨_, hbl3, ?_, ?_⟩, (hbb.trans (hb2.mono (by omega))).trans hbb3, (ht.trans (Tame.ofBelow hb2)).trans ht3⟩
  . rw [List.append_assoc]
    rw [textB_list]
    exact Aft.all _ _
  . rw [List.length_append, List.length_append, <- Lib.size_eq]
    have := textB_size s hsm; simp; omega
set_option maxRecDepth 100000 in
set_option maxHeartbeats 4000000 in
theorem put_4 {bo : Bool} {n : Int} {s : ByteArray} {m : Nat} {f : Nat -> Tr} {q : Nat} {g : Nat -> ByteArray} {d : Int} (_hS : SoundP 4 bo n s m f q g d) (hsm : s.size <= 4096) : PutC (.mk 4 bo n s m f q g) d := by
  intro B w x b l hL hB hbl hl
  have hlim := hL.lims
  replace hlim : -9223372036854775808 <= n /\ n < 9223372036854775808 := hlim.2.1
  have hkb : IntKind.u8.wrap 4 = ((UInt8.ofNat (4 : Int).toNat).toNat : Int) := kindByte (by decide) (by decide)
  have hb0 := hbl.lt
  obtain ⟨pa, pc, na, nc⟩ := x
  have hV : (Tr.mk 4 bo n s m f q g).val ⟨pa, pc, na, nc⟩ = .agg #[.int .i64 4, .bool bo, .int .i64 n, .string s, .slice pa m pc, .slice na q nc] := rfl
  have hbel : Below w.heap.size w (w.alloc (.cells #[.int .i64 4, .bool bo, .int .i64 n, .string s, .slice pa m pc, .slice na q nc] 25)) := (Below.refl _ w).alloc (Nat.le_refl _) _
  have hrow := fresh_row w #[.int .i64 4, .bool bo, .int .i64 n, .string s, .slice pa m pc, .slice na q nc] 25
  have hby := fun W hW => b_byte b l (UInt8.ofNat (4 : Int).toNat) W hW (by omega) _ hkb
  rw [hV]
  clear hkb
  go_enter Tryz.func63, Tryz.ntmps63
  go_wp2_with fail
  refine (hby _ (hbl.later hbel)).mono ?_
  rintro e w1 ⟨rfl, hbl1, hbb1, ht1⟩
  replace hrow := ht1.block _ _ _ _ (by decide) (by decide) hrow
  have hbb : Below b w w1 := (hbel.mono (by omega)).trans hbb1
  have ht : Tame w w1 := (Tame.ofBelow hbel).trans ht1
  clear hbb1 ht1
  have c0 := cell_of_row w1 _ 0 _ _ _ hrow
  have c1 := cell_of_row w1 _ 1 _ _ _ hrow
  have c2 := cell_of_row w1 _ 2 _ _ _ hrow
  have c3 := cell_of_row w1 _ 3 _ _ _ hrow
  have c4 := cell_of_row w1 _ 4 _ _ _ hrow
  have c5 := cell_of_row w1 _ 5 _ _ _ hrow
  go_wp2_with fail
  refine (etext_any s (by omega) _).mono ?_
  rintro e w2 ⟨rfl, hb2⟩
  have hlt := lt_of_row hrow
  go_wp2_with fail
  refine (b_text b _ (textB s) _ (hbl1.later hb2) (by simp; omega) (by have := textB_size s hsm; omega)).mono ?_
  rintro e w3 ⟨rfl, hbl3, hbb3, ht3⟩
  go_wp2
  go_end0
  have hT : bytesT (.mk 4 bo n s m f q g) = [UInt8.ofNat (4 : Int).toNat] ++ textL s := by simp [bytesT]
  rw [hT]
  refine ⟨rfl, ⟨_, hbl3, ?_, ?_⟩, (hbb.trans (hb2.mono (by omega))).trans hbb3, (ht.trans (Tame.ofBelow hb2)).trans ht3⟩
  . rw [List.append_assoc]
    rw [textB_list]
    exact Aft.all _ _
  . rw [List.length_append, List.length_append, <- Lib.size_eq]
    have := textB_size s hsm; simp; omega
set_option maxRecDepth 100000 in
set_option maxHeartbeats 4000000 in
theorem put_5 {bo : Bool} {n : Int} {s : ByteArray} {m : Nat} {f : Nat -> Tr} {q : Nat} {g : Nat -> ByteArray} {d : Int} (hS : SoundP 5 bo n s m f q g d) (_hsm : s.size <= 4096) (ih : ∀ i, i < m -> PutC (f i) (d + 1)) : PutC (.mk 5 bo n s m f q g) d := by
  intro B w x b l hL hB hbl hl
  have hlim := hL.lims
  replace hlim : -9223372036854775808 <= n /\ n < 9223372036854775808 := hlim.2.1
  have hkb : IntKind.u8.wrap 5 = ((UInt8.ofNat (5 : Int).toNat).toNat : Int) := kindByte (by decide) (by decide)
  have hb0 := hbl.lt
  obtain ⟨pa, pc, na, nc⟩ := x
  have hV : (Tr.mk 5 bo n s m f q g).val ⟨pa, pc, na, nc⟩ = .agg #[.int .i64 5, .bool bo, .int .i64 n, .string s, .slice pa m pc, .slice na q nc] := rfl
  have hbel : Below w.heap.size w (w.alloc (.cells #[.int .i64 5, .bool bo, .int .i64 n, .string s, .slice pa m pc, .slice na q nc] 25)) := (Below.refl _ w).alloc (Nat.le_refl _) _
  have hrow := fresh_row w #[.int .i64 5, .bool bo, .int .i64 n, .string s, .slice pa m pc, .slice na q nc] 25
  have hby := fun W hW => b_byte b l (UInt8.ofNat (5 : Int).toNat) W hW (by omega) _ hkb
  rw [hV]
  clear hkb
  go_enter Tryz.func63, Tryz.ntmps63
  go_wp2_with fail
  refine (hby _ (hbl.later hbel)).mono ?_
  rintro e w1 ⟨rfl, hbl1, hbb1, ht1⟩
  replace hrow := ht1.block _ _ _ _ (by decide) (by decide) hrow
  have hbb : Below b w w1 := (hbel.mono (by omega)).trans hbb1
  have ht : Tame w w1 := (Tame.ofBelow hbel).trans ht1
  clear hbb1 ht1
  have c0 := cell_of_row w1 _ 0 _ _ _ hrow
  have c1 := cell_of_row w1 _ 1 _ _ _ hrow
  have c2 := cell_of_row w1 _ 2 _ _ _ hrow
  have c3 := cell_of_row w1 _ 3 _ _ _ hrow
  have c4 := cell_of_row w1 _ 4 _ _ _ hrow
  have c5 := cell_of_row w1 _ 5 _ _ _ hrow
  have hpp := parts_5 hS ih (hL.later (hbb.mono hB)) hB hbl1 (by simp; omega)
  rw [hV] at hpp
  go_wp2_with fail
  refine hpp.mono ?_
  rintro e w3 ⟨rfl, ⟨l3, hbl3, haf, hl3⟩, hbb3, ht3⟩
  go_wp2
  go_end0
  have hT : bytesT (.mk 5 bo n s m f q g) = [UInt8.ofNat (5 : Int).toNat] ++ (put m ++ cat m (fun i => (if (5 : Int) = 6 then textL (g i) else []) ++ bytesT (f i))) := by rw [bytesT]; simp
  rw [hT]
  exact ⟨rfl, ⟨l3, hbl3, haf.on, hl3⟩, hbb.trans hbb3, ht.trans ht3⟩
set_option maxRecDepth 100000 in
set_option maxHeartbeats 4000000 in
theorem put_6 {bo : Bool} {n : Int} {s : ByteArray} {m : Nat} {f : Nat -> Tr} {q : Nat} {g : Nat -> ByteArray} {d : Int} (hS : SoundP 6 bo n s m f q g d) (_hsm : s.size <= 4096) (ih : ∀ i, i < m -> PutC (f i) (d + 1)) : PutC (.mk 6 bo n s m f q g) d := by
  intro B w x b l hL hB hbl hl
  have hlim := hL.lims
  replace hlim : -9223372036854775808 <= n /\ n < 9223372036854775808 := hlim.2.1
  have hkb : IntKind.u8.wrap 6 = ((UInt8.ofNat (6 : Int).toNat).toNat : Int) := kindByte (by decide) (by decide)
  have hb0 := hbl.lt
  obtain ⟨pa, pc, na, nc⟩ := x
  have hV : (Tr.mk 6 bo n s m f q g).val ⟨pa, pc, na, nc⟩ = .agg #[.int .i64 6, .bool bo, .int .i64 n, .string s, .slice pa m pc, .slice na q nc] := rfl
  have hbel : Below w.heap.size w (w.alloc (.cells #[.int .i64 6, .bool bo, .int .i64 n, .string s, .slice pa m pc, .slice na q nc] 25)) := (Below.refl _ w).alloc (Nat.le_refl _) _
  have hrow := fresh_row w #[.int .i64 6, .bool bo, .int .i64 n, .string s, .slice pa m pc, .slice na q nc] 25
  have hby := fun W hW => b_byte b l (UInt8.ofNat (6 : Int).toNat) W hW (by omega) _ hkb
  rw [hV]
  clear hkb
  go_enter Tryz.func63, Tryz.ntmps63
  go_wp2_with fail
  refine (hby _ (hbl.later hbel)).mono ?_
  rintro e w1 ⟨rfl, hbl1, hbb1, ht1⟩
  replace hrow := ht1.block _ _ _ _ (by decide) (by decide) hrow
  have hbb : Below b w w1 := (hbel.mono (by omega)).trans hbb1
  have ht : Tame w w1 := (Tame.ofBelow hbel).trans ht1
  clear hbb1 ht1
  have c0 := cell_of_row w1 _ 0 _ _ _ hrow
  have c1 := cell_of_row w1 _ 1 _ _ _ hrow
  have c2 := cell_of_row w1 _ 2 _ _ _ hrow
  have c3 := cell_of_row w1 _ 3 _ _ _ hrow
  have c4 := cell_of_row w1 _ 4 _ _ _ hrow
  have c5 := cell_of_row w1 _ 5 _ _ _ hrow
  have hpp := parts_6 hS ih (hL.later (hbb.mono hB)) hB hbl1 (by simp; omega)
  rw [hV] at hpp
  go_wp2_with fail
  refine hpp.mono ?_
  rintro e w3 ⟨rfl, ⟨l3, hbl3, haf, hl3⟩, hbb3, ht3⟩
  go_wp2
  go_end0
  have hT : bytesT (.mk 6 bo n s m f q g) = [UInt8.ofNat (6 : Int).toNat] ++ (put m ++ cat m (fun i => (if (6 : Int) = 6 then textL (g i) else []) ++ bytesT (f i))) := by rw [bytesT]; simp
  rw [hT]
  exact ⟨rfl, ⟨l3, hbl3, haf.on, hl3⟩, hbb.trans hbb3, ht.trans ht3⟩
set_option maxRecDepth 100000 in
theorem put_all (t : Tr) : ∀ d, soundT t d = 0 -> small t -> PutC t d := by
  induction t with
  | no => exact fun _ _ _ _ _ _ _ _ hL => hL.no.elim
  | mk k b n s m f q g ih =>
    intro d hS hsm
    have hP := soundP hS
    have hc : ∀ i, i < m -> PutC (f i) (d + 1) := fun i hi => ih i (d + 1) (hP.ch i hi) (hsm.2 i hi)
    have h0 := hP.k0
    have h6 := hP.k6
    obtain rfl | rfl | rfl | rfl | rfl | rfl | rfl : k = 0 ∨ k = 1 ∨ k = 2 ∨ k = 3 ∨ k = 4 ∨ k = 5 ∨ k = 6 := by omega
    . exact put_0 hP hsm.1
    . exact put_1 hP hsm.1
    . exact put_2 hP hsm.1
    . exact put_3 hP hsm.1
    . exact put_4 hP hsm.1
    . exact put_5 hP hsm.1 hc
    . exact put_6 hP hsm.1 hc
end Go.Proofs.YtfemippjaokcmaaGreatDoor.V
namespace Go.Proofs.YtfemippjaokcmaaGreatDoor.V
open Go.RowKit
def checkT (t : Tr) : Int := if soundT t 1 = 0 then (if 1024 < (bytesT t).length then 3 else 0) else soundT t 1
def encT (t : Tr) : ByteArray := if checkT t = 0 then ⟨(bytesT t).toArray⟩ else ⟨#[]⟩
set_option maxRecDepth 100000 in
theorem bytesT_ne (t : Tr) : bytesT t ≠ [] := by cases t <;> rw [bytesT] <;> simp
set_option maxRecDepth 100000 in
set_option maxHeartbeats 4000000 in
theorem encode_any {t : Tr} {B : Nat} {w : World} {x : Ad} (hL : Lies B w t x) (hB : B <= w.heap.size) (hsm : small t) :
    Calls Tryz.prog 36 #[t.val x] w fun e w' => e = .returned (.tuple #[.string (encT t), .int .i64 (checkT t)]) /\ Below w.heap.size w w' := by
  obtain ⟨C, hC⟩ : ∃ C, checkT t = C := ⟨_, rfl⟩
  obtain ⟨X, hX⟩ : ∃ X, encT t = X := ⟨_, rfl⟩
  rw [hC, hX]
  have HC : Hid (checkT t = C) := hC
  have HX : Hid (encT t = X) := hX
  clear hC hX
  obtain ⟨E, hE⟩ : ∃ E, soundT t 1 = E := ⟨_, rfl⟩
  have hso := fun (W : World) (hb : Below B w W) (hs : B <= W.heap.size) => sound_any t B W x 1 (by decide) (by decide) (hL.later hb) hs
  rw [hE] at hso
  have HE : Hid (soundT t 1 = E) := hE
  clear hE
  obtain ⟨bs, hbs⟩ : ∃ bs, bytesT t = bs := ⟨_, rfl⟩
  have HB : Hid (bytesT t = bs) := hbs
  have hne := bytesT_ne t
  rw [hbs] at hne
  clear hbs
  have hpt := put_all t 1
  rw [PutC, HB.out] at hpt
  have hV : t.val x = .agg #[.int .i64 t.k, .bool t.b, .int .i64 t.n, .string t.s, .slice x.pa t.m x.pc, .slice x.na t.q x.nc] := rfl
  rw [hV] at hso ⊢
  have hbel : Below w.heap.size w (w.alloc (.cells #[.int .i64 t.k, .bool t.b, .int .i64 t.n, .string t.s, .slice x.pa t.m x.pc, .slice x.na t.q x.nc] 25)) := (Below.refl _ w).alloc (Nat.le_refl _) _
  have hrow := (heap_alloc_new w (.cells #[.int .i64 t.k, .bool t.b, .int .i64 t.n, .string t.s, .slice x.pa t.m x.pc, .slice x.na t.q x.nc] 25))
  by_cases h0 : E = 0
  . subst h0
    go_enter Tryz.func36, Tryz.ntmps36
    go_wp2_with fail
    refine (hso _ (hbel.mono hB) (by simp; omega)).mono ?_
    rintro e w1 ⟨rfl, hb1⟩
    replace hrow := (hb1.block _ (by simp)).trans hrow
    replace hbel := hbel.trans (hb1.mono (by simp))
    clear hb1
    have hlt := lt_of_row hrow
    have hbl := bld_new w1
    have hb2 : Below w1.heap.size w1 (w1.alloc (.cells #[.pointer none, .slice none 0 0] 112)) := (Below.refl _ w1).alloc (Nat.le_refl _) _
    have hrow2 := (hb2.block _ hlt).trans hrow
    have c0 := cell_of_row _ _ 0 _ _ _ hrow2
    have c1 := cell_of_row _ _ 1 _ _ _ hrow2
    have c2 := cell_of_row _ _ 2 _ _ _ hrow2
    have c3 := cell_of_row _ _ 3 _ _ _ hrow2
    have c4 := cell_of_row _ _ 4 _ _ _ hrow2
    have c5 := cell_of_row _ _ 5 _ _ _ hrow2
    have hLx := hL.later ((hbel.trans (hb2.mono (by omega))).mono hB)
    have hBb : B <= w1.heap.size := by omega
    go_wp2_with fail
    refine (hpt HE.out hsm B _ x _ [] hLx hBb hbl (by simp)).mono ?_
    rintro e w3 ⟨rfl, ⟨l3, hbl3, haf, hl3⟩, hbb3, ht3⟩
    have hfin : Below w.heap.size w w3 := (hbel.trans (hb2.mono (by omega))).trans (hbb3.mono (by omega))
    clear c0 c1 c2 c3 c4 c5
    go_wp2_with fail
    refine (b_len _ l3 _ hbl3).mono ?_
    rintro e w3 ⟨rfl, rfl⟩
    by_cases hbig : 1024 < l3.length
    . have hbig' : (1024 : Int) < (l3.length : Int) := by omega
      have hx : 1024 < bs.length := by
        rcases Nat.lt_or_ge 1024 bs.length with k | k
        . exact k
        . have := haf.1 (by simpa using k); rw [List.nil_append] at this; rw [this] at hbig; omega
      have hc : checkT t = 3 := by unfold checkT; rw [if_pos HE.out, HB.out, if_pos hx]
      have he : encT t = ⟨#[]⟩ := by unfold encT; rw [hc]; rfl
      obtain rfl := hc.symm.trans HC.out
      obtain rfl := he.symm.trans HX.out
      go_wp2
      go_ret2
      exact ⟨rfl, hfin⟩
    . have hbig' : (l3.length : Int) <= 1024 := by omega
      have hx : l3 = bs := by have := haf.exact (by omega); simpa using this
      subst hx
      have hc : checkT t = 0 := by unfold checkT; rw [if_pos HE.out, HB.out, if_neg hbig]
      have he : encT t = ⟨l3.toArray⟩ := by unfold encT; rw [hc, if_pos rfl, HB.out]
      obtain rfl := hc.symm.trans HC.out
      obtain rfl := he.symm.trans HX.out
      go_wp2_with fail
      refine (b_string _ l3 _ hbl3 hne).mono ?_
      rintro e w4 ⟨rfl, hb4⟩
      go_wp2
      go_ret2
      exact ⟨rfl, hfin.trans (hb4.mono (by omega))⟩
  . have hc : checkT t = E := by unfold checkT; rw [HE.out, if_neg h0]
    have he : encT t = ⟨#[]⟩ := by unfold encT; rw [hc, if_neg h0]
    obtain rfl := hc.symm.trans HC.out
    obtain rfl := he.symm.trans HX.out
    clear hpt
    have h0' : (E != 0) = true := by simpa using h0
    go_enter Tryz.func36, Tryz.ntmps36
    go_wp2_with fail
    refine (hso _ (hbel.mono hB) (by simp; omega)).mono ?_
    rintro e w1 ⟨rfl, hb1⟩
    go_wp2
    go_ret2
    exact ⟨rfl, hbel.trans (hb1.mono (by simp))⟩
set_option maxRecDepth 100000 in
set_option maxHeartbeats 1000000 in
theorem check_any {t : Tr} {B : Nat} {w : World} {x : Ad} (hL : Lies B w t x) (hB : B <= w.heap.size) (hsm : small t) :
    Calls Tryz.prog 14 #[t.val x] w fun e w' => e = .returned (.int .i64 (checkT t)) /\ Below w.heap.size w w' := by
  have hen := fun (W : World) (hb : Below B w W) (hs : B <= W.heap.size) => encode_any (hL.later hb) hs hsm
  have hV : t.val x = .agg #[.int .i64 t.k, .bool t.b, .int .i64 t.n, .string t.s, .slice x.pa t.m x.pc, .slice x.na t.q x.nc] := rfl
  rw [hV] at hen ⊢
  have hbel : Below w.heap.size w (w.alloc (.cells #[.int .i64 t.k, .bool t.b, .int .i64 t.n, .string t.s, .slice x.pa t.m x.pc, .slice x.na t.q x.nc] 25)) := (Below.refl _ w).alloc (Nat.le_refl _) _
  go_enter Tryz.func14, Tryz.ntmps14
  go_wp2_with fail
  refine (hen _ (hbel.mono hB) (by simp; omega)).mono ?_
  rintro e w1 ⟨rfl, hb1⟩
  go_wp2
  go_ret
  exact ⟨rfl, hbel.trans (hb1.mono (by simp))⟩
end Go.Proofs.YtfemippjaokcmaaGreatDoor.V
namespace Go.Proofs.YtfemippjaokcmaaGreatDoor.V
open Go.RowKit
set_option maxRecDepth 100000 in
theorem put_pos (n : Nat) : 1 <= (put n).length := by
  rcases Nat.lt_or_ge n 128 with h | h
  . rw [put_lt h]; exact Nat.le_refl _
  . rw [put_ge h]; simp
set_option maxRecDepth 100000 in
theorem cat_leK {F G : Nat -> List UInt8} : ∀ {m : Nat}, (∀ i, i < m -> (F i).length <= 9 * (G i).length) -> (cat m F).length <= 9 * (cat m G).length
  | 0, _ => Nat.zero_le _
  | m + 1, h => by
    have h1 := cat_leK (m := m) (fun i hi => h i (by omega))
    have h2 := h m (by omega)
    show (cat m F ++ F m).length <= 9 * (cat m G ++ G m).length
    rw [List.length_append, List.length_append]
    omega
set_option maxRecDepth 100000 in
theorem key_len (t : Tr) : ∀ d, soundT t d = 0 -> (keyT t).length + 8 <= 9 * (bytesT t).length := by
  induction t with
  | no => intro _ _; decide
  | mk k b n s m f q g ih =>
    intro d hS
    have hP := soundP hS
    have h0 := hP.k0
    have h6 := hP.k6
    obtain rfl | rfl | rfl | rfl | rfl | rfl | rfl : k = 0 ∨ k = 1 ∨ k = 2 ∨ k = 3 ∨ k = 4 ∨ k = 5 ∨ k = 6 := by omega
    . simp [keyT, bytesT]
    . simp [keyT, bytesT]
    . have := put_pos (zig n)
      simp [keyT, bytesT, be8_len]
      omega
    . have h1 := put_pos s.size
      have h2 := ktextL_len s
      simp [keyT, bytesT, textL]
      omega
    . have h1 := put_pos s.size
      have h2 := ktextL_len s
      simp [keyT, bytesT, textL]
      omega
    . have h1 := put_pos m
      have hc := cat_leK (m := m) (F := fun i => 1 :: keyT (f i)) (G := fun i => bytesT (f i)) (fun i hi => by
        have := ih i (d + 1) (hP.ch i hi)
        simp only [List.length_cons]; omega)
      simp [keyT, bytesT]
      omega
    . have h1 := put_pos m
      have hc := cat_leK (m := m) (F := fun i => 1 :: (ktextL (g i) ++ keyT (f i))) (G := fun i => textL (g i) ++ bytesT (f i)) (fun i hi => by
        have := ih i (d + 1) (hP.ch i hi)
        have h3 := put_pos (g i).size
        have h4 := ktextL_len (g i)
        simp only [List.length_cons, List.length_append, textL]
        have h5 := Lib.size_eq (g i)
        omega)
      simp [keyT, bytesT]
      omega
set_option maxRecDepth 100000 in
theorem small_cutK (t : Tr) : ∀ d w, small (cutT t d w) := by
  induction t with
  | no => exact fun _ _ => trivial
  | mk k b n s m f q g ih =>
    intro d w
    rw [cutT]
    refine ⟨?_, fun i _ => ih i (d - 1) 4⟩
    split
    . simp; omega
    . omega
set_option maxRecDepth 100000 in
theorem check_zero {t : Tr} (h : checkT t = 0) : soundT t 1 = 0 /\ (bytesT t).length <= 1024 := by
  unfold checkT at h
  by_cases hs : soundT t 1 = 0
  . rw [if_pos hs] at h
    by_cases hb : 1024 < (bytesT t).length
    . rw [if_pos hb] at h; cases h
    . exact ⟨hs, by omega⟩
  . rw [if_neg hs] at h
    exact absurd h hs
set_option maxRecDepth 100000 in
theorem key_short {t : Tr} (h : checkT t = 0) : (keyT t).length <= 9216 := by
  obtain ⟨h1, h2⟩ := check_zero h
  have := key_len t 1 h1
  omega
set_option maxRecDepth 100000 in
theorem of_ok {t : Tr} {B : Nat} {w : World} {x : Ad} (h : checkT t = 0) (hsm : small t) (hg : Gm w) (hL : Lies B w t x) (hB : B <= w.heap.size) :
    Calls Tryz.prog 46 #[t.val x] w fun e w' => e = .returned (.string ⟨(keyT t).toArray⟩) /\ Below w.heap.size w w' :=
  ofg_any (kputg_all t 1 (check_zero h).1 hsm) hg (by obtain ⟨m, hm⟩ := hg; exact Nat.lt_of_le_of_lt (Nat.zero_le _) (block_lt hm)) hL hB (by have := key_short h; omega)
set_option maxRecDepth 100000 in
theorem key_ok {t : Tr} {B : Nat} {w : World} {x : Ad} (h : checkT t = 0) (hsm : small t) (hL : Lies B w t x) (hB : B <= w.heap.size) :
    Calls Tryz.prog 18 #[t.val x] w fun e w' => e = .returned (.string ⟨(keyT t).toArray⟩) /\ Below w.heap.size w w' :=
  dkey_all t 1 (check_zero h).1 hsm B w x hL hB (by have := key_short h; omega)
set_option maxRecDepth 100000 in
theorem Gm.pos {w : World} (h : Gm w) : 0 < w.heap.size := by obtain ⟨m, hm⟩ := h; exact Nat.lt_of_le_of_lt (Nat.zero_le _) (block_lt hm)
end Go.Proofs.YtfemippjaokcmaaGreatDoor.V
namespace Go.Proofs.YtfemippjaokcmaaGreatDoor.V
def lt8 (x y : List UInt8) : Bool := Op.bytesLess x y
theorem lt8_nil_r (x : List UInt8) : lt8 x [] = false := by cases x <;> simp [lt8, Op.bytesLess]
theorem lt8_nil_l (c : UInt8) (y : List UInt8) : lt8 [] (c :: y) = true := by simp [lt8, Op.bytesLess]
theorem lt8_cons (a b : UInt8) (x y : List UInt8) : lt8 (a :: x) (b :: y) = (decide (a < b) || (a == b && lt8 x y)) := by simp [lt8, Op.bytesLess]
theorem u8_lt {a b : UInt8} : a < b ↔ a.toNat < b.toNat := UInt8.lt_iff_toNat_lt
theorem u8_eq {a b : UInt8} : a = b ↔ a.toNat = b.toNat := UInt8.toNat_inj.symm
theorem lt8_irrefl (x : List UInt8) : lt8 x x = false := by
  induction x with
  | nil => rfl
  | cons a x ih => rw [lt8_cons, ih]; simp
theorem lt8_trans {x y z : List UInt8} (h : lt8 x y = true) (k : lt8 y z = true) : lt8 x z = true := by
  induction x generalizing y z with
  | nil =>
    cases z with
    | nil => rw [lt8_nil_r] at k; cases k
    | cons c z => exact lt8_nil_l c z
  | cons a x ih =>
    cases y with
    | nil => rw [lt8_nil_r] at h; cases h
    | cons b y =>
      cases z with
      | nil => rw [lt8_nil_r] at k; cases k
      | cons c z =>
        rw [lt8_cons] at h k ⊢
        simp only [Bool.or_eq_true, decide_eq_true_eq, Bool.and_eq_true, beq_iff_eq] at h k ⊢
        rw [u8_lt, u8_eq] at h k ⊢
        rcases h with h | ⟨h1, h2⟩ <;> rcases k with k | ⟨k1, k2⟩
        . left; omega
        . left; omega
        . left; omega
        . right; exact ⟨by omega, ih h2 k2⟩
theorem lt8_total (x y : List UInt8) : lt8 x y = true ∨ x = y ∨ lt8 y x = true := by
  induction x generalizing y with
  | nil =>
    cases y with
    | nil => exact Or.inr (Or.inl rfl)
    | cons c y => exact Or.inl (lt8_nil_l c y)
  | cons a x ih =>
    cases y with
    | nil => exact Or.inr (Or.inr (lt8_nil_l a x))
    | cons b y =>
      rw [lt8_cons, lt8_cons]
      rcases Nat.lt_trichotomy a.toNat b.toNat with h | h | h
      . left; simp [u8_lt.2 h]
      . have e : a = b := u8_eq.2 h
        subst e
        rcases ih y with h | h | h
        . left; simp [h]
        . right; left; rw [h]
        . right; right; simp [h]
      . right; right; simp [u8_lt.2 h]
theorem lt8_append (p x y : List UInt8) : lt8 (p ++ x) (p ++ y) = lt8 x y := by
  induction p with
  | nil => rfl
  | cons a p ih => rw [List.cons_append, List.cons_append, lt8_cons, ih]; simp
def nextF : List UInt8 -> Option (List UInt8)
  | [] => none
  | c :: r => match nextF r with
    | some x => some (c :: x)
    | none => if c = 255 then none else some [c + 1]
def nextL (s : List UInt8) : List UInt8 := (nextF s).getD []
theorem nextF_ff (l : List UInt8) : nextF (l ++ [255]) = nextF l := by
  induction l with
  | nil => rfl
  | cons c r ih => rw [List.cons_append, nextF, nextF, ih]
theorem nextF_up (l : List UInt8) (c : UInt8) (h : c ≠ 255) : nextF (l ++ [c]) = some (l ++ [c + 1]) := by
  induction l with
  | nil => simp [nextF, h]
  | cons d r ih => rw [List.cons_append, nextF, ih]; rfl
theorem nextF_ne {s n : List UInt8} (h : nextF s = some n) : n ≠ [] := by
  intro e
  subst e
  cases s with
  | nil => cases h
  | cons c r =>
    rw [nextF] at h
    split at h
    . cases h
    . split at h <;> cases h
theorem up_lt {c : UInt8} (h : c ≠ 255) : c < c + 1 := by
  rw [u8_lt, UInt8.toNat_add]
  have h1 : c.toNat ≠ 255 := fun e => h (u8_eq.2 e)
  have h2 := c.toNat_lt
  have h3 : (1 : UInt8).toNat = 1 := rfl
  rw [h3]
  omega
theorem next_above {s n : List UInt8} (t : List UInt8) (h : nextF s = some n) : lt8 (s ++ t) n = true := by
  induction s generalizing n with
  | nil => cases h
  | cons c r ih =>
    rw [nextF] at h
    split at h
    . rename_i x hx
      injection h with h
      subst h
      rw [List.cons_append, lt8_cons, ih hx]
      simp
    . split at h
      . cases h
      . rename_i hc
        injection h with h
        subst h
        rw [List.cons_append, lt8_cons]
        simp [up_lt hc]
theorem next_least {s t : List UInt8} (h : lt8 s t = true) (hp : ¬ s <+: t) : ∃ n, nextF s = some n /\ lt8 t n = false := by
  induction s generalizing t with
  | nil => exact absurd (List.nil_prefix) hp
  | cons c r ih =>
    cases t with
    | nil => rw [lt8_nil_r] at h; cases h
    | cons d t =>
      rw [lt8_cons] at h
      simp only [Bool.or_eq_true, decide_eq_true_eq, Bool.and_eq_true, beq_iff_eq] at h
      rcases h with h | ⟨rfl, h⟩
      . cases hx : nextF r with
        | some x =>
          refine ⟨c :: x, by rw [nextF, hx], ?_⟩
          rw [lt8_cons]
          have h1 : ¬ d < c := by rw [u8_lt] at h ⊢; omega
          have h2 : ¬ d = c := by rw [u8_lt] at h; rw [u8_eq]; omega
          simp [h1, h2]
        | none =>
          have hc : c ≠ 255 := fun e => by subst e; rw [u8_lt] at h; have := d.toNat_lt; have h3 : (255 : UInt8).toNat = 255 := rfl; omega
          refine ⟨[c + 1], by rw [nextF, hx]; simp [hc], ?_⟩
          rw [lt8_cons, lt8_nil_r]
          have h1 : ¬ d < c + 1 := by
            rw [u8_lt] at h ⊢
            rw [UInt8.toNat_add]
            have h3 : (1 : UInt8).toNat = 1 := rfl
            have h2 := d.toNat_lt
            rw [h3]
            omega
          simp [h1]
      . have hp' : ¬ r <+: t := fun k => hp ((List.prefix_cons_inj c).2 k)
        obtain ⟨x, hx, hl⟩ := ih h hp'
        refine ⟨c :: x, by rw [nextF, hx], ?_⟩
        rw [lt8_cons, hl]
        simp
end Go.Proofs.YtfemippjaokcmaaGreatDoor.V
namespace Go.Proofs.YtfemippjaokcmaaGreatDoor.V
open Go.RowKit
def Comp (p q : List UInt8) : Prop := p <+: q ∨ q <+: p
theorem Comp.symm {p q : List UInt8} (h : Comp p q) : Comp q p := Or.symm h
theorem Comp.refl (p : List UInt8) : Comp p p := Or.inl (List.prefix_refl p)
theorem comp_cons {a b : UInt8} {p q : List UInt8} : Comp (a :: p) (b :: q) ↔ a = b /\ Comp p q := by
  unfold Comp
  rw [List.cons_prefix_cons, List.cons_prefix_cons]
  constructor
  . rintro (⟨h, k⟩ | ⟨h, k⟩)
    . exact ⟨h, Or.inl k⟩
    . exact ⟨h.symm, Or.inr k⟩
  . rintro ⟨h, k | k⟩
    . exact Or.inl ⟨h, k⟩
    . exact Or.inr ⟨h.symm, k⟩
theorem comp_left {p q x y : List UInt8} (h : Comp (p ++ x) (q ++ y)) : Comp p q := by
  rcases h with h | h
  . exact (List.prefix_or_prefix_of_prefix ((List.prefix_append p x).trans h) (List.prefix_append q y))
  . exact (List.prefix_or_prefix_of_prefix (List.prefix_append p x) ((List.prefix_append q y).trans h))
theorem comp_append {p x y : List UInt8} : Comp (p ++ x) (p ++ y) ↔ Comp x y := by
  unfold Comp
  rw [List.prefix_append_right_inj, List.prefix_append_right_inj]
theorem lt8_apart {p q : List UInt8} (h : ¬ Comp p q) (x y : List UInt8) : lt8 (p ++ x) (q ++ y) = lt8 p q := by
  induction p generalizing q with
  | nil => exact absurd (Or.inl List.nil_prefix) h
  | cons a p ih =>
    cases q with
    | nil => exact absurd (Or.inr List.nil_prefix) h
    | cons b q =>
      rw [List.cons_append, List.cons_append, lt8_cons, lt8_cons]
      by_cases e : a = b
      . subst e
        rw [ih (fun k => h (comp_cons.2 ⟨rfl, k⟩))]
      . have e' : (a == b) = false := by simpa using e
        rw [e']
        simp
theorem esc_ff {s t x y : List UInt8} (h : Comp (escL s ++ 0 :: 1 :: x) (escL t ++ 0 :: 1 :: y)) : s = t := by
  induction s generalizing t with
  | nil =>
    cases t with
    | nil => rfl
    | cons d t =>
      exfalso
      rw [escL, escL, List.nil_append, List.cons_append, comp_cons] at h
      obtain ⟨rfl, h⟩ := h
      rw [if_pos rfl, List.cons_append, comp_cons] at h
      exact absurd h.1 (by decide)
  | cons c s ih =>
    cases t with
    | nil =>
      exfalso
      rw [escL, escL, List.nil_append, List.cons_append, comp_cons] at h
      obtain ⟨rfl, h⟩ := h
      rw [if_pos rfl, List.cons_append, comp_cons] at h
      exact absurd h.1 (by decide)
    | cons d t =>
      rw [escL, escL, List.cons_append, List.cons_append, comp_cons] at h
      obtain ⟨rfl, h⟩ := h
      by_cases h0 : c = 0
      . rw [if_pos h0, if_pos h0, List.cons_append, List.cons_append, comp_cons] at h
        rw [ih h.2]
      . rw [if_neg h0, if_neg h0] at h
        rw [ih h]
theorem esc_lt {s t : List UInt8} (hne : s ≠ t) (x y : List UInt8) : lt8 (escL s ++ 0 :: 1 :: x) (escL t ++ 0 :: 1 :: y) = lt8 s t := by
  induction s generalizing t with
  | nil =>
    cases t with
    | nil => exact absurd rfl hne
    | cons d t =>
      rw [lt8_nil_l, escL, escL, List.nil_append, List.cons_append, lt8_cons]
      by_cases h0 : d = 0
      . subst h0
        rw [if_pos rfl, List.cons_append, lt8_cons]
        rfl
      . have : (0 : UInt8) < d := by
          rw [u8_lt]
          have h1 : d.toNat ≠ 0 := fun e => h0 (u8_eq.2 e)
          have h2 : (0 : UInt8).toNat = 0 := rfl
          omega
        simp [this]
  | cons c s ih =>
    cases t with
    | nil =>
      rw [lt8_nil_r, escL, escL, List.nil_append, List.cons_append, lt8_cons]
      by_cases h0 : c = 0
      . subst h0
        rw [if_pos rfl, List.cons_append, lt8_cons]
        rfl
      . have h1 : ¬ c < 0 := by rw [u8_lt]; have h2 : (0 : UInt8).toNat = 0 := rfl; omega
        simp [h0, h1]
    | cons d t =>
      rw [lt8_cons, escL, escL, List.cons_append, List.cons_append, lt8_cons]
      by_cases e : c = d
      . subst e
        have hne' : s ≠ t := fun k => hne (by rw [k])
        by_cases h0 : c = 0
        . rw [if_pos h0, if_pos h0, List.cons_append, List.cons_append, lt8_cons, ih hne']
          simp
        . rw [if_neg h0, if_neg h0, ih hne']
      . have e' : (c == d) = false := by simpa using e
        rw [e']
        simp
theorem ktext_list (s : ByteArray) (x : List UInt8) : ktextL s ++ x = escL s.data.toList ++ 0 :: 1 :: x := by
  unfold ktextL
  simp
theorem ktext_ff {s t : ByteArray} {x y : List UInt8} (h : Comp (ktextL s ++ x) (ktextL t ++ y)) : s = t := by
  rw [ktext_list, ktext_list] at h
  exact ByteArray.ext (Array.ext' (esc_ff h))
theorem ktext_lt {s t : ByteArray} (hne : s ≠ t) (x y : List UInt8) : lt8 (ktextL s ++ x) (ktextL t ++ y) = lt8 s.data.toList t.data.toList := by
  rw [ktext_list, ktext_list]
  exact esc_lt (fun e => hne (ByteArray.ext (Array.ext' e))) x y
def val8 : List UInt8 -> Nat
  | [] => 0
  | c :: r => c.toNat * 256 ^ r.length + val8 r
theorem val8_lt (l : List UInt8) : val8 l < 256 ^ l.length := by
  induction l with
  | nil => decide
  | cons c r ih =>
    rw [val8, List.length_cons, Nat.pow_succ]
    have h1 := c.toNat_lt
    have h2 : c.toNat * 256 ^ r.length <= 255 * 256 ^ r.length := Nat.mul_le_mul_right _ (by omega)
    omega
theorem lt8_val {p q : List UInt8} (h : p.length = q.length) : lt8 p q = decide (val8 p < val8 q) := by
  induction p generalizing q with
  | nil =>
    cases q with
    | nil => rfl
    | cons d q => cases h
  | cons c p ih =>
    cases q with
    | nil => cases h
    | cons d q =>
      have hl : p.length = q.length := by simpa using h
      have hp := val8_lt p
      have hq := val8_lt q
      rw [lt8_cons, ih hl, val8, val8, hl]
      rw [hl] at hp
      obtain ⟨M, hM⟩ : ∃ M, 256 ^ q.length = M := ⟨_, rfl⟩
      rw [hM] at hp hq ⊢
      rcases Nat.lt_trichotomy c.toNat d.toNat with k | k | k
      . have h2 : c.toNat * M + M <= d.toNat * M := by
          have := Nat.mul_le_mul_right M (show c.toNat + 1 <= d.toNat from k)
          rw [Nat.add_mul, Nat.one_mul] at this
          exact this
        rw [decide_eq_true (show c < d from u8_lt.2 k), decide_eq_true (show c.toNat * M + val8 p < d.toNat * M + val8 q by omega)]
        rfl
      . have e : c = d := u8_eq.2 k
        subst e
        simp
      . have h2 : d.toNat * M + M <= c.toNat * M := by
          have := Nat.mul_le_mul_right M (show d.toNat + 1 <= c.toNat from k)
          rw [Nat.add_mul, Nat.one_mul] at this
          exact this
        have e : (c == d) = false := by
          have : c ≠ d := fun e => by rw [e] at k; omega
          simpa using this
        rw [decide_eq_false (show ¬ c < d by rw [u8_lt]; omega), e, decide_eq_false (show ¬ c.toNat * M + val8 p < d.toNat * M + val8 q by omega)]
        rfl
theorem be8_val (n : Nat) (h : n < 18446744073709551616) : val8 (be8 n) = n := by
  have e : be8 n = [UInt8.ofNat (n / 2 ^ 56), UInt8.ofNat (n / 2 ^ 48), UInt8.ofNat (n / 2 ^ 40), UInt8.ofNat (n / 2 ^ 32), UInt8.ofNat (n / 2 ^ 24), UInt8.ofNat (n / 2 ^ 16), UInt8.ofNat (n / 2 ^ 8), UInt8.ofNat (n / 2 ^ 0)] := rfl
  rw [e]
  simp only [val8, List.length_cons, List.length_nil, UInt8.toNat_ofNat']
  omega
theorem be8_lt (n m : Nat) (hn : n < 18446744073709551616) (hm : m < 18446744073709551616) : lt8 (be8 n) (be8 m) = decide (n < m) := by
  rw [lt8_val (by rw [be8_len, be8_len]), be8_val n hn, be8_val m hm]
theorem be8_inj {n m : Nat} (hn : n < 18446744073709551616) (hm : m < 18446744073709551616) (h : be8 n = be8 m) : n = m := by
  rw [<- be8_val n hn, <- be8_val m hm, h]
theorem comp_len {p q : List UInt8} (h : Comp p q) (hl : p.length = q.length) : p = q := by
  rcases h with h | h
  . exact h.eq_of_length hl
  . exact (h.eq_of_length hl.symm).symm
def rowT (m : Nat) (F : Nat -> List UInt8) : List UInt8 := cat m F ++ [0]
theorem cat_front (m : Nat) (F : Nat -> List UInt8) : cat (m + 1) F = F 0 ++ cat m (fun i => F (i + 1)) := by
  induction m with
  | zero => simp [cat]
  | succ m ih =>
    show cat (m + 1) F ++ F (m + 1) = _
    rw [ih, List.append_assoc]
    rfl
theorem row_front (m : Nat) (F : Nat -> List UInt8) : rowT (m + 1) F = F 0 ++ rowT m (fun i => F (i + 1)) := by
  unfold rowT
  rw [cat_front, List.append_assoc]
theorem row_ff {m l : Nat} {F G : Nat -> List UInt8} (hF : ∀ i, i < m -> ∃ r, F i = 1 :: r) (hG : ∀ i, i < l -> ∃ r, G i = 1 :: r)
    (hFG : ∀ i, i < m -> i < l -> Comp (F i) (G i) -> F i = G i) (h : Comp (rowT m F) (rowT l G)) : rowT m F = rowT l G := by
  induction m generalizing l F G with
  | zero =>
    cases l with
    | zero => rfl
    | succ l =>
      exfalso
      obtain ⟨r, hr⟩ := hG 0 (by omega)
      rw [row_front, hr] at h
      have h' : Comp (0 :: []) (1 :: (r ++ rowT l (fun i => G (i + 1)))) := h
      exact absurd (comp_cons.1 h').1 (by decide)
  | succ m ih =>
    cases l with
    | zero =>
      exfalso
      obtain ⟨r, hr⟩ := hF 0 (by omega)
      rw [row_front, hr] at h
      have h' : Comp (1 :: (r ++ rowT m (fun i => F (i + 1)))) (0 :: []) := h
      exact absurd (comp_cons.1 h').1 (by decide)
    | succ l =>
      rw [row_front, row_front] at h ⊢
      have e := hFG 0 (by omega) (by omega) (comp_left h)
      rw [e, comp_append] at h
      rw [e, ih (fun i hi => hF (i + 1) (by omega)) (fun i hi => hG (i + 1) (by omega)) (fun i h1 h2 hc => hFG (i + 1) (by omega) (by omega) hc) h]
theorem key_head {t : Tr} {d : Int} (h : soundT t d = 0) : 0 <= t.k /\ t.k <= 6 /\ ∃ r, keyT t = UInt8.ofNat t.k.toNat :: r := by
  cases t with
  | no => exact ⟨by decide, by decide, [], rfl⟩
  | mk k b n s m f q g =>
    have hP := soundP h
    exact ⟨hP.k0, hP.k6, _, by rw [keyT]; rfl⟩
theorem kind_byte {a b : Int} (ha : 0 <= a) (ha6 : a <= 6) (hb : 0 <= b) (hb6 : b <= 6) (h : UInt8.ofNat a.toNat = UInt8.ofNat b.toNat) : a = b := by
  have := u8_eq.1 h
  rw [toNat_ofNat_lt (by omega), toNat_ofNat_lt (by omega)] at this
  omega
theorem kind_eq {a b : Tr} {d d' : Int} (ha : soundT a d = 0) (hb : soundT b d' = 0) (h : Comp (keyT a) (keyT b)) : a.k = b.k := by
  obtain ⟨a0, a6, r, hr⟩ := key_head ha
  obtain ⟨b0, b6, r', hr'⟩ := key_head hb
  rw [hr, hr', comp_cons] at h
  exact kind_byte a0 a6 b0 b6 h.1
def partF (k : Int) (f : Nat -> Tr) (g : Nat -> ByteArray) (i : Nat) : List UInt8 := 1 :: ((if k = 6 then ktextL (g i) else []) ++ keyT (f i))
theorem key_no {k : Int} {b : Bool} {n : Int} {s : ByteArray} {m : Nat} {f : Nat -> Tr} {q : Nat} {g : Nat -> ByteArray} (h : k = 0) : keyT (.mk k b n s m f q g) = [0] := by subst h; simp [keyT]
theorem key_bool {b : Bool} {n : Int} {s : ByteArray} {m : Nat} {f : Nat -> Tr} {q : Nat} {g : Nat -> ByteArray} : keyT (.mk 1 b n s m f q g) = [1, if b then 1 else 0] := by simp [keyT]
theorem key_num {b : Bool} {n : Int} {s : ByteArray} {m : Nat} {f : Nat -> Tr} {q : Nat} {g : Nat -> ByteArray} : keyT (.mk 2 b n s m f q g) = 2 :: be8 (turnN n) := by simp [keyT]
theorem key_str {b : Bool} {n : Int} {s : ByteArray} {m : Nat} {f : Nat -> Tr} {q : Nat} {g : Nat -> ByteArray} : keyT (.mk 3 b n s m f q g) = 3 :: (ktextL s ++ []) := by simp [keyT]
theorem key_byt {b : Bool} {n : Int} {s : ByteArray} {m : Nat} {f : Nat -> Tr} {q : Nat} {g : Nat -> ByteArray} : keyT (.mk 4 b n s m f q g) = 4 :: (ktextL s ++ []) := by simp [keyT]
theorem key_lst {b : Bool} {n : Int} {s : ByteArray} {m : Nat} {f : Nat -> Tr} {q : Nat} {g : Nat -> ByteArray} : keyT (.mk 5 b n s m f q g) = 5 :: rowT m (partF 5 f g) := by rw [keyT]; rfl
theorem key_stc {b : Bool} {n : Int} {s : ByteArray} {m : Nat} {f : Nat -> Tr} {q : Nat} {g : Nat -> ByteArray} : keyT (.mk 6 b n s m f q g) = 6 :: rowT m (partF 6 f g) := by rw [keyT]; rfl
theorem key_ff (a : Tr) : ∀ (b : Tr) (d d' : Int), soundT a d = 0 -> soundT b d' = 0 -> Comp (keyT a) (keyT b) -> keyT a = keyT b := by
  induction a with
  | no =>
    intro b d d' ha hb h
    have hk := kind_eq ha hb h
    cases b with
    | no => rfl
    | mk k' b' n' s' m' f' q' g' => rw [key_no (show k' = 0 from hk.symm)]; rfl
  | mk k bo n s m f q g ih =>
    intro b d d' ha hb h
    have hk := kind_eq ha hb h
    cases b with
    | no => rw [key_no (show k = 0 from hk)]; rfl
    | mk k' b' n' s' m' f' q' g' =>
      have hk' : k = k' := hk
      subst hk'
      have hP := soundP ha
      have hQ := soundP hb
      have h0 := hP.k0
      have h6 := hP.k6
      obtain rfl | rfl | rfl | rfl | rfl | rfl | rfl : k = 0 ∨ k = 1 ∨ k = 2 ∨ k = 3 ∨ k = 4 ∨ k = 5 ∨ k = 6 := by omega
      . rw [key_no rfl, key_no rfl]
      . rw [key_bool, key_bool] at h ⊢
        exact comp_len h (by simp)
      . rw [key_num, key_num] at h ⊢
        exact comp_len h (by simp [be8_len])
      . rw [key_str, key_str] at h ⊢
        rw [ktext_ff (comp_cons.1 h).2]
      . rw [key_byt, key_byt] at h ⊢
        rw [ktext_ff (comp_cons.1 h).2]
      . rw [key_lst, key_lst] at h ⊢
        refine congrArg _ (row_ff (F := partF 5 f g) (G := partF 5 f' g') (fun i _ => ⟨_, rfl⟩) (fun i _ => ⟨_, rfl⟩) (fun i hi hi' hc => ?_) (comp_cons.1 h).2)
        unfold partF at hc ⊢
        rw [if_neg (by decide), if_neg (by decide), List.nil_append, List.nil_append, comp_cons] at hc
        rw [if_neg (by decide), if_neg (by decide), List.nil_append, List.nil_append, ih i (f' i) _ _ (hP.ch i hi) (hQ.ch i hi') hc.2]
      . rw [key_stc, key_stc] at h ⊢
        refine congrArg _ (row_ff (F := partF 6 f g) (G := partF 6 f' g') (fun i _ => ⟨_, rfl⟩) (fun i _ => ⟨_, rfl⟩) (fun i hi hi' hc => ?_) (comp_cons.1 h).2)
        unfold partF at hc ⊢
        rw [if_pos (by decide), if_pos (by decide), comp_cons] at hc
        have e := ktext_ff hc.2
        rw [e, comp_append] at hc
        rw [if_pos (by decide), if_pos (by decide), e, ih i (f' i) _ _ (hP.ch i hi) (hQ.ch i hi') hc.2]
theorem key_apart {a b : Tr} {d d' : Int} (ha : soundT a d = 0) (hb : soundT b d' = 0) (hne : keyT a ≠ keyT b) : ¬ Comp (keyT a) (keyT b) := fun h => hne (key_ff a b d d' ha hb h)
theorem cat_congr {F G : Nat -> List UInt8} : ∀ {i : Nat}, (∀ j, j < i -> F j = G j) -> cat i F = cat i G
  | 0, _ => rfl
  | i + 1, h => by
    show cat i F ++ F i = cat i G ++ G i
    rw [cat_congr (fun j hj => h j (by omega)), h i (by omega)]
theorem row_at {i m : Nat} (F : Nat -> List UInt8) (h : i < m) : ∃ r, rowT m F = cat i F ++ (F i ++ r) := by
  obtain ⟨y, hy⟩ := cat_more F (show i + 1 <= m by omega)
  refine ⟨y ++ [0], ?_⟩
  unfold rowT
  rw [hy, show cat (i + 1) F = cat i F ++ F i from rfl]
  simp
theorem row_name {i m l : Nat} {F G : Nat -> List UInt8} {s t : ByteArray} {x y : List UInt8} (hj : ∀ j, j < i -> F j = G j) (hi : i < m) (hi' : i < l) (hF : F i = 1 :: (ktextL s ++ x)) (hG : G i = 1 :: (ktextL t ++ y)) (hne : s ≠ t) :
    lt8 (rowT m F) (rowT l G) = lt8 s.data.toList t.data.toList := by
  obtain ⟨r, hr⟩ := row_at F hi
  obtain ⟨r', hr'⟩ := row_at G hi'
  rw [hr, hr', cat_congr hj, lt8_append, hF, hG, List.cons_append, List.cons_append, lt8_cons, List.append_assoc, List.append_assoc, ktext_lt hne]
  simp
theorem row_part {i m l : Nat} {F G : Nat -> List UInt8} {p x y : List UInt8} (hj : ∀ j, j < i -> F j = G j) (hi : i < m) (hi' : i < l) (hF : F i = p ++ x) (hG : G i = p ++ y) (hne : ¬ Comp x y) :
    lt8 (rowT m F) (rowT l G) = lt8 x y := by
  obtain ⟨r, hr⟩ := row_at F hi
  obtain ⟨r', hr'⟩ := row_at G hi'
  rw [hr, hr', cat_congr hj, lt8_append, hF, hG, List.append_assoc, List.append_assoc, lt8_append, lt8_apart hne]
theorem row_end {m l : Nat} {F G : Nat -> List UInt8} (hF : ∀ i, ∃ r, F i = 1 :: r) (hG : ∀ i, ∃ r, G i = 1 :: r) (hj : ∀ j, j < min m l -> F j = G j) : lt8 (rowT m F) (rowT l G) = decide (m < l) := by
  rcases Nat.lt_trichotomy m l with h | h | h
  . rw [show min m l = m by omega] at hj
    obtain ⟨r', hr'⟩ := row_at G h
    obtain ⟨r, hr⟩ := hG m
    unfold rowT at hr' ⊢
    rw [hr', cat_congr hj, lt8_append, hr, List.cons_append, lt8_cons, decide_eq_true h]
    rfl
  . subst h
    rw [Nat.min_self] at hj
    unfold rowT
    rw [cat_congr hj, lt8_irrefl]
    simp
  . rw [show min m l = l by omega] at hj
    obtain ⟨r', hr'⟩ := row_at F h
    obtain ⟨r, hr⟩ := hF l
    unfold rowT at hr' ⊢
    rw [hr', <- cat_congr hj, lt8_append, hr, List.cons_append, lt8_cons, decide_eq_false (show ¬ m < l by omega)]
    rfl
end Go.Proofs.YtfemippjaokcmaaGreatDoor.V
namespace Go.Proofs.YtfemippjaokcmaaGreatDoor.V
open Go.RowKit
theorem min_str (ts : Array TypeId) (t : TypeId) (a b : ByteArray) (w : World) : (Builtin.min_ ts t #[.string a, .string b]).run Tryz.prog w = .ok (.string (if (Op.bytesLess a.toList b.toList || a.toList == b.toList) = true then a else b)) w := by
  simp [Builtin.min_, Builtin.min2, Op.stringOp, asBool]
theorem max_str (ts : Array TypeId) (t : TypeId) (a b : ByteArray) (w : World) : (Builtin.max_ ts t #[.string a, .string b]).run Tryz.prog w = .ok (.string (if (!Op.bytesLess a.toList b.toList) = true then a else b)) w := by
  simp [Builtin.max_, Builtin.max2, Op.stringOp, asBool]
def lowerB (a b : ByteArray) : ByteArray := if (a.toList.isEmpty || b.toList.isEmpty) = true then a ++ b else if (Op.bytesLess a.toList b.toList || a.toList == b.toList) = true then a else b
theorem size_of_empty {a : ByteArray} (h : a.toList.isEmpty = true) : a.size = 0 := by
  rw [Lib.size_eq, <- Lib.toList_data]
  simpa using h
def maxS (a b : ByteArray) : ByteArray := if (!Op.bytesLess a.toList b.toList) = true then a else b
end Go.Proofs.YtfemippjaokcmaaGreatDoor.V
namespace Go.Proofs.YtfemippjaokcmaaGreatDoor.V
open Go.RowKit
def nextB (s : ByteArray) : ByteArray := ⟨(nextL s.data.toList).toArray⟩
theorem take_up (s : ByteArray) (k : Nat) (h : k < s.size) : s.data.toList.take (k + 1) = s.data.toList.take k ++ [s[k]] := by
  rw [List.take_succ_eq_append_getElem (by simpa using h)]; rfl
theorem ext_cat (s : ByteArray) (j : Nat) (c : UInt8) : s.extract 0 j ++ ⟨#[c]⟩ = ⟨(s.data.toList.take j ++ [c]).toArray⟩ := by
  refine ByteArray.ext ?_
  rw [ByteArray.data_append, ByteArray.data_extract]
  apply Array.ext'
  simp
set_option maxRecDepth 20000 in
set_option maxHeartbeats 1000000 in
theorem next_any (s : ByteArray) (hs : s.size <= maxLen) (w : World) :
    Calls Tryz.prog 47 #[.string s] w fun e w' => e = .returned (.string (nextB s)) /\ Below w.heap.size w w' := by
  unfold maxLen at hs
  obtain ⟨X, hX⟩ : ∃ X, nextB s = X := ⟨_, rfl⟩
  rw [hX]
  have HX : Hid (nextB s = X) := hX
  clear hX
  have hl : IntKind.i64.wrap ((s.size : Int) - 1) = (s.size : Int) - 1 := by rw [IntKind.wrap_i64]; omega
  go_enter Tryz.func47, Tryz.ntmps47
  go_wp2
  go_loopw [3] (fun c3 wr => ∃ (k : Nat), k <= s.size /\ c3 = .int .i64 ((k : Int) - 1) /\ nextF (s.data.toList.take k) = nextF s.data.toList /\ wr = w) (fun c3 _ => (intOf c3 + 1).toNat)
  case atStart =>
    exact ⟨s.size, Nat.le_refl _, rfl, by rw [List.take_of_length_le (by simp)], rfl⟩
  case round =>
    obtain ⟨k, hk, rfl, hn, rfl⟩ := hrel
    have HN : Hid (nextF (s.data.toList.take k) = nextF s.data.toList) := hn
    clear hn
    rcases Nat.eq_zero_or_pos k with rfl | hk0
    . have hx : nextB s = ⟨#[]⟩ := by unfold nextB nextL; rw [<- HN.out]; rfl
      obtain rfl := hx.symm.trans HX.out
      go_wp2
      all_goals
        go_ret
        exact ⟨rfl, Below.refl _ _⟩
    . obtain ⟨j, rfl⟩ : ∃ j, k = j + 1 := ⟨k - 1, by omega⟩
      have hj : ((j + 1 : Nat) : Int) - 1 = (j : Int) := by omega
      rw [hj]
      have hjs : j < s.size := by omega
      have hjs' : (j : Int) < (s.size : Int) := by omega
      rw [take_up s j hjs] at HN
      by_cases hff : s[j].toNat = 255
      . have hff' : (s[j].toNat : Int) = 255 := by omega
        go_wp2
        go_roundw
        case rel => exact ⟨j, by omega, by go_num, by
          have e : s[j] = 255 := u8_eq.2 hff
          have := HN.out
          rw [e, nextF_ff] at this
          exact this, by trivial⟩
        case measure => simp [intOf]
      . have hff' : ¬ (s[j].toNat : Int) = 255 := by omega
        have hne : s[j] ≠ 255 := fun e => hff (u8_eq.1 e)
        have hx : nextB s = ⟨(s.data.toList.take j ++ [s[j] + 1]).toArray⟩ := by
          unfold nextB nextL
          rw [<- HN.out, nextF_up _ _ hne]
          rfl
        have HY := hx.symm.trans HX.out
        clear hx
        obtain ⟨c, hc⟩ : ∃ c, s[j] + 1 = c := ⟨_, rfl⟩
        obtain ⟨v, hv⟩ : ∃ v : Int, IntKind.u8.wrap ((s[j].toNat : Int) + 1) = v := ⟨_, rfl⟩
        have hvc : v = (c.toNat : Int) := by
          rw [<- hv, <- hc, IntKind.wrap_u8', UInt8.toNat_add]
          have h3 : (1 : UInt8).toNat = 1 := rfl
          rw [h3]
          omega
        rw [hc] at HY
        have HY' : Hid (X = ⟨(s.data.toList.take j ++ [c]).toArray⟩) := HY.symm
        have HV : Hid (v = (c.toNat : Int)) := hvc
        have hcv : (convert 84 9 (.slice (some ⟨wr.heap.size, 0, none⟩) 1 1)).run Tryz.prog (wr.alloc (.cells #[.int .u8 v] 5)).drew = .ok (.string ⟨#[c]⟩) (wr.alloc (.cells #[.int .u8 v] 5)).drew := conv1 wr.drew c 5 v hvc
        have hz : (s.extract 0 j).size + (⟨#[c]⟩ : ByteArray).size <= 9223372036854775807 := by
          have h1 : (⟨#[c]⟩ : ByteArray).size = 1 := rfl
          rw [h1, ByteArray.size_extract]
          omega
        clear HY hvc hc HX HN hne
        go_wp2
        go_region
        all_goals
          go_wp2
          go_ret
          refine ⟨?_, ((Below.refl _ wr).alloc (Nat.le_refl _) _).drew⟩
          rw [HY'.out, ext_cat]
          rfl
end Go.Proofs.YtfemippjaokcmaaGreatDoor.V
