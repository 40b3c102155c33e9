/- A value that is not too great (Cut), of any value. A sound value's bytes behind others (put), of each kind; and of any sound value. -/
import Derived.Test.YtfcenidepkjdcaaDoorVCutb
import Derived.Test.YtfcenidepkjdcaaDoorVCutc
import Derived.Test.YtfcenidepkjdcaaDoorVCutd
import Derived.Test.YtfcenidepkjdcaaDoorVCute
import Derived.Test.YtfcenidepkjdcaaDoorXai
namespace Go.Proofs.YtfcenidepkjdcaaDoor.V
open Go.RowKit
set_option maxRecDepth 100000 in
theorem cut_all (t : Tr) : CutC t := by
  induction t with
  | no => exact fun _ _ _ _ _ hL => hL.no.elim
  | mk k b n s m f q g ih =>
    intro B w x deep wide hL hB hw hd
    rw [cutT]
    by_cases h11 : 1100 < s.size
    · rw [if_pos h11]
      by_cases hd0 : deep = 0
      · rw [if_pos hd0]
        by_cases hmw : wide < m
        · exact cut_0wx deep wide hL hB hw hd (by omega) (by omega) hd0 ih
        · exact cut_0mx deep wide hL hB hw hd (by omega) (by omega) hd0 ih
      · rw [if_neg hd0]
        by_cases hmw : wide < m
        · rw [show min m wide = wide by omega]
          exact cut_wx deep wide hL hB hw hd (by omega) (by omega) (by omega) ih
        · rw [show min m wide = m by omega]
          exact cut_mx deep wide hL hB hw hd (by omega) (by omega) (by omega) ih
    · rw [if_neg h11]
      by_cases hd0 : deep = 0
      · rw [if_pos hd0]
        by_cases hmw : wide < m
        · exact cut_0ws deep wide hL hB hw hd (by omega) (by omega) hd0 ih
        · exact cut_0ms deep wide hL hB hw hd (by omega) (by omega) hd0 ih
      · rw [if_neg hd0]
        by_cases hmw : wide < m
        · rw [show min m wide = wide by omega]
          exact cut_ws deep wide hL hB hw hd (by omega) (by omega) (by omega) ih
        · rw [show min m wide = m by omega]
          exact cut_ms deep wide hL hB hw hd (by omega) (by omega) (by omega) ih
end Go.Proofs.YtfcenidepkjdcaaDoor.V
namespace Go.Proofs.YtfcenidepkjdcaaDoor.V
open Go.RowKit
set_option maxRecDepth 100000 in
set_option maxHeartbeats 4000000 in
theorem put_0 {bo : Bool} {n : Int} {s : ByteArray} {m : Nat} {f : Nat → Tr} {q : Nat} {g : Nat → ByteArray} {d : Int} (_hS : SoundP 0 bo n s m f q g d) (_hsm : s.size ≤ 4096) : PutC (.mk 0 bo n s m f q g) d := by
  intro B w x b l hL hB hbl hl
  have hlim := hL.lims
  replace hlim : -9223372036854775808 ≤ n ∧ n < 9223372036854775808 := hlim.2.1
  have hkb : IntKind.u8.wrap 0 = ((UInt8.ofNat (0 : Int).toNat).toNat : Int) := kindByte (by decide) (by decide)
  have hb0 := hbl.lt
  obtain ⟨pa, pc, na, nc⟩ := x
  have hV : (Tr.mk 0 bo n s m f q g).val ⟨pa, pc, na, nc⟩ = .agg #[.int .i64 0, .bool bo, .int .i64 n, .string s, .slice pa m pc, .slice na q nc] := rfl
  have hbel : Below w.heap.size w (w.alloc (.cells #[.int .i64 0, .bool bo, .int .i64 n, .string s, .slice pa m pc, .slice na q nc] 29)) := (Below.refl _ w).alloc (Nat.le_refl _) _
  have hrow := fresh_row w #[.int .i64 0, .bool bo, .int .i64 n, .string s, .slice pa m pc, .slice na q nc] 29
  have hby := fun W hW => b_byte b l (UInt8.ofNat (0 : Int).toNat) W hW (by omega) _ hkb
  rw [hV]
  clear hkb
  go_enter Tryd.func57, Tryd.ntmps57
  go_wp2_with fail
  refine (hby _ (hbl.later hbel)).mono ?_
  rintro e w1 ⟨rfl, hbl1, hbb1, ht1⟩
  replace hrow := ht1.block _ _ _ _ (by decide) (by decide) hrow
  have hbb : Below b w w1 := (hbel.mono (by omega)).trans hbb1
  have ht : Tame w w1 := (Tame.ofBelow hbel).trans ht1
  clear hbb1 ht1
  have c0 := cell_of_row w1 _ 0 _ _ _ hrow
  have c1 := cell_of_row w1 _ 1 _ _ _ hrow
  have c2 := cell_of_row w1 _ 2 _ _ _ hrow
  have c3 := cell_of_row w1 _ 3 _ _ _ hrow
  have c4 := cell_of_row w1 _ 4 _ _ _ hrow
  have c5 := cell_of_row w1 _ 5 _ _ _ hrow
  go_wp2
  go_end0
  have hT : bytesT (.mk 0 bo n s m f q g) = [UInt8.ofNat (0 : Int).toNat] := by simp [bytesT]
  rw [hT]
  exact ⟨rfl, ⟨_, hbl1, Aft.all _ _, by simp; omega⟩, hbb, ht⟩
set_option maxRecDepth 100000 in
set_option maxHeartbeats 4000000 in
theorem put_1 {bo : Bool} {n : Int} {s : ByteArray} {m : Nat} {f : Nat → Tr} {q : Nat} {g : Nat → ByteArray} {d : Int} (hS : SoundP 1 bo n s m f q g d) (_hsm : s.size ≤ 4096) : PutC (.mk 1 bo n s m f q g) d := by
  intro B w x b l hL hB hbl hl
  have hlim := hL.lims
  replace hlim : -9223372036854775808 ≤ n ∧ n < 9223372036854775808 := hlim.2.1
  have hkb : IntKind.u8.wrap 1 = ((UInt8.ofNat (1 : Int).toNat).toNat : Int) := kindByte (by decide) (by decide)
  have hb0 := hbl.lt
  obtain ⟨pa, pc, na, nc⟩ := x
  have hV : (Tr.mk 1 bo n s m f q g).val ⟨pa, pc, na, nc⟩ = .agg #[.int .i64 1, .bool bo, .int .i64 n, .string s, .slice pa m pc, .slice na q nc] := rfl
  have hbel : Below w.heap.size w (w.alloc (.cells #[.int .i64 1, .bool bo, .int .i64 n, .string s, .slice pa m pc, .slice na q nc] 29)) := (Below.refl _ w).alloc (Nat.le_refl _) _
  have hrow := fresh_row w #[.int .i64 1, .bool bo, .int .i64 n, .string s, .slice pa m pc, .slice na q nc] 29
  have hby := fun W hW => b_byte b l (UInt8.ofNat (1 : Int).toNat) W hW (by omega) _ hkb
  rw [hV]
  clear hkb
  go_enter Tryd.func57, Tryd.ntmps57
  go_wp2_with fail
  refine (hby _ (hbl.later hbel)).mono ?_
  rintro e w1 ⟨rfl, hbl1, hbb1, ht1⟩
  replace hrow := ht1.block _ _ _ _ (by decide) (by decide) hrow
  have hbb : Below b w w1 := (hbel.mono (by omega)).trans hbb1
  have ht : Tame w w1 := (Tame.ofBelow hbel).trans ht1
  clear hbb1 ht1
  have c0 := cell_of_row w1 _ 0 _ _ _ hrow
  have c1 := cell_of_row w1 _ 1 _ _ _ hrow
  have c2 := cell_of_row w1 _ 2 _ _ _ hrow
  have c3 := cell_of_row w1 _ 3 _ _ _ hrow
  have c4 := cell_of_row w1 _ 4 _ _ _ hrow
  have c5 := cell_of_row w1 _ 5 _ _ _ hrow
  go_wp2_with fail
  refine (ebool_any bo _).mono ?_
  rintro e w1 ⟨rfl, rfl⟩
  have hlt := lt_of_row hrow
  go_wp2_with fail
  refine (b_text b _ (boolB bo) _ hbl1 (by simp; omega) (by rw [boolB_size]; decide)).mono ?_
  rintro e w3 ⟨rfl, hbl3, hbb3, ht3⟩
  go_wp2
  go_end0
  have hT : bytesT (.mk 1 bo n s m f q g) = [UInt8.ofNat (1 : Int).toNat] ++ [if bo then 1 else 0] := by simp [bytesT]
  rw [hT]
  refine ⟨rfl, ⟨_, hbl3, ?_, ?_⟩, hbb.trans hbb3, ht.trans ht3⟩
  · rw [List.append_assoc]
    rw [show (boolB bo).data.toList = [if bo then 1 else 0] by cases bo <;> rfl]
    exact Aft.all _ _
  · rw [List.length_append, List.length_append, ← Lib.size_eq]
    rw [boolB_size]; simp; omega
set_option maxRecDepth 100000 in
set_option maxHeartbeats 4000000 in
theorem put_2 {bo : Bool} {n : Int} {s : ByteArray} {m : Nat} {f : Nat → Tr} {q : Nat} {g : Nat → ByteArray} {d : Int} (_hS : SoundP 2 bo n s m f q g d) (_hsm : s.size ≤ 4096) : PutC (.mk 2 bo n s m f q g) d := by
  intro B w x b l hL hB hbl hl
  have hlim := hL.lims
  replace hlim : -9223372036854775808 ≤ n ∧ n < 9223372036854775808 := hlim.2.1
  have hkb : IntKind.u8.wrap 2 = ((UInt8.ofNat (2 : Int).toNat).toNat : Int) := kindByte (by decide) (by decide)
  have hb0 := hbl.lt
  obtain ⟨pa, pc, na, nc⟩ := x
  have hV : (Tr.mk 2 bo n s m f q g).val ⟨pa, pc, na, nc⟩ = .agg #[.int .i64 2, .bool bo, .int .i64 n, .string s, .slice pa m pc, .slice na q nc] := rfl
  have hbel : Below w.heap.size w (w.alloc (.cells #[.int .i64 2, .bool bo, .int .i64 n, .string s, .slice pa m pc, .slice na q nc] 29)) := (Below.refl _ w).alloc (Nat.le_refl _) _
  have hrow := fresh_row w #[.int .i64 2, .bool bo, .int .i64 n, .string s, .slice pa m pc, .slice na q nc] 29
  have hby := fun W hW => b_byte b l (UInt8.ofNat (2 : Int).toNat) W hW (by omega) _ hkb
  rw [hV]
  clear hkb
  go_enter Tryd.func57, Tryd.ntmps57
  go_wp2_with fail
  refine (hby _ (hbl.later hbel)).mono ?_
  rintro e w1 ⟨rfl, hbl1, hbb1, ht1⟩
  replace hrow := ht1.block _ _ _ _ (by decide) (by decide) hrow
  have hbb : Below b w w1 := (hbel.mono (by omega)).trans hbb1
  have ht : Tame w w1 := (Tame.ofBelow hbel).trans ht1
  clear hbb1 ht1
  have c0 := cell_of_row w1 _ 0 _ _ _ hrow
  have c1 := cell_of_row w1 _ 1 _ _ _ hrow
  have c2 := cell_of_row w1 _ 2 _ _ _ hrow
  have c3 := cell_of_row w1 _ 3 _ _ _ hrow
  have c4 := cell_of_row w1 _ 4 _ _ _ hrow
  have c5 := cell_of_row w1 _ 5 _ _ _ hrow
  go_wp2_with fail
  refine (eint_any n hlim.1 hlim.2 _).mono ?_
  rintro e w2 ⟨rfl, hb2⟩
  have hlt := lt_of_row hrow
  go_wp2_with fail
  refine (b_text b _ ⟨(put (zig n)).toArray⟩ _ (hbl1.later hb2) (by simp; omega) (by rw [put_size]; have := put_len10 (zig_lt hlim.1 hlim.2); omega)).mono ?_
  rintro e w3 ⟨rfl, hbl3, hbb3, ht3⟩
  go_wp2
  go_end0
  have hT : bytesT (.mk 2 bo n s m f q g) = [UInt8.ofNat (2 : Int).toNat] ++ put (zig n) := by simp [bytesT]
  rw [hT]
  refine ⟨rfl, ⟨_, hbl3, ?_, ?_⟩, (hbb.trans (hb2.mono (by omega))).trans hbb3, (ht.trans (Tame.ofBelow hb2)).trans ht3⟩
  · rw [List.append_assoc]
    exact Aft.all _ _
  · rw [List.length_append, List.length_append]
    have := put_len10 (zig_lt hlim.1 hlim.2); simp; omega
set_option maxRecDepth 100000 in
set_option maxHeartbeats 4000000 in
theorem put_3 {bo : Bool} {n : Int} {s : ByteArray} {m : Nat} {f : Nat → Tr} {q : Nat} {g : Nat → ByteArray} {d : Int} (_hS : SoundP 3 bo n s m f q g d) (hsm : s.size ≤ 4096) : PutC (.mk 3 bo n s m f q g) d := by
  intro B w x b l hL hB hbl hl
  have hlim := hL.lims
  replace hlim : -9223372036854775808 ≤ n ∧ n < 9223372036854775808 := hlim.2.1
  have hkb : IntKind.u8.wrap 3 = ((UInt8.ofNat (3 : Int).toNat).toNat : Int) := kindByte (by decide) (by decide)
  have hb0 := hbl.lt
  obtain ⟨pa, pc, na, nc⟩ := x
  have hV : (Tr.mk 3 bo n s m f q g).val ⟨pa, pc, na, nc⟩ = .agg #[.int .i64 3, .bool bo, .int .i64 n, .string s, .slice pa m pc, .slice na q nc] := rfl
  have hbel : Below w.heap.size w (w.alloc (.cells #[.int .i64 3, .bool bo, .int .i64 n, .string s, .slice pa m pc, .slice na q nc] 29)) := (Below.refl _ w).alloc (Nat.le_refl _) _
  have hrow := fresh_row w #[.int .i64 3, .bool bo, .int .i64 n, .string s, .slice pa m pc, .slice na q nc] 29
  have hby := fun W hW => b_byte b l (UInt8.ofNat (3 : Int).toNat) W hW (by omega) _ hkb
  rw [hV]
  clear hkb
  go_enter Tryd.func57, Tryd.ntmps57
  go_wp2_with fail
  refine (hby _ (hbl.later hbel)).mono ?_
  rintro e w1 ⟨rfl, hbl1, hbb1, ht1⟩
  replace hrow := ht1.block _ _ _ _ (by decide) (by decide) hrow
  have hbb : Below b w w1 := (hbel.mono (by omega)).trans hbb1
  have ht : Tame w w1 := (Tame.ofBelow hbel).trans ht1
  clear hbb1 ht1
  have c0 := cell_of_row w1 _ 0 _ _ _ hrow
  have c1 := cell_of_row w1 _ 1 _ _ _ hrow
  have c2 := cell_of_row w1 _ 2 _ _ _ hrow
  have c3 := cell_of_row w1 _ 3 _ _ _ hrow
  have c4 := cell_of_row w1 _ 4 _ _ _ hrow
  have c5 := cell_of_row w1 _ 5 _ _ _ hrow
  go_wp2_with fail
  refine (etext_any s (by omega) _).mono ?_
  rintro e w2 ⟨rfl, hb2⟩
  have hlt := lt_of_row hrow
  go_wp2_with fail
  refine (b_text b _ (textB s) _ (hbl1.later hb2) (by simp; omega) (by have := textB_size s hsm; omega)).mono ?_
  rintro e w3 ⟨rfl, hbl3, hbb3, ht3⟩
  go_wp2
  go_end0
  have hT : bytesT (.mk 3 bo n s m f q g) = [UInt8.ofNat (3 : Int).toNat] ++ textL s := by simp [bytesT]
  rw [hT]
  refine ⟨rfl, ⟨_, hbl3, ?_, ?_⟩, (hbb.trans (hb2.mono (by omega))).trans hbb3, (ht.trans (Tame.ofBelow hb2)).trans ht3⟩
  · rw [List.append_assoc]
    rw [textB_list]
    exact Aft.all _ _
  · rw [List.length_append, List.length_append, ← Lib.size_eq]
    have := textB_size s hsm; simp; omega
set_option maxRecDepth 100000 in
set_option maxHeartbeats 4000000 in
theorem put_4 {bo : Bool} {n : Int} {s : ByteArray} {m : Nat} {f : Nat → Tr} {q : Nat} {g : Nat → ByteArray} {d : Int} (_hS : SoundP 4 bo n s m f q g d) (hsm : s.size ≤ 4096) : PutC (.mk 4 bo n s m f q g) d := by
  intro B w x b l hL hB hbl hl
  have hlim := hL.lims
  replace hlim : -9223372036854775808 ≤ n ∧ n < 9223372036854775808 := hlim.2.1
  have hkb : IntKind.u8.wrap 4 = ((UInt8.ofNat (4 : Int).toNat).toNat : Int) := kindByte (by decide) (by decide)
  have hb0 := hbl.lt
  obtain ⟨pa, pc, na, nc⟩ := x
  have hV : (Tr.mk 4 bo n s m f q g).val ⟨pa, pc, na, nc⟩ = .agg #[.int .i64 4, .bool bo, .int .i64 n, .string s, .slice pa m pc, .slice na q nc] := rfl
  have hbel : Below w.heap.size w (w.alloc (.cells #[.int .i64 4, .bool bo, .int .i64 n, .string s, .slice pa m pc, .slice na q nc] 29)) := (Below.refl _ w).alloc (Nat.le_refl _) _
  have hrow := fresh_row w #[.int .i64 4, .bool bo, .int .i64 n, .string s, .slice pa m pc, .slice na q nc] 29
  have hby := fun W hW => b_byte b l (UInt8.ofNat (4 : Int).toNat) W hW (by omega) _ hkb
  rw [hV]
  clear hkb
  go_enter Tryd.func57, Tryd.ntmps57
  go_wp2_with fail
  refine (hby _ (hbl.later hbel)).mono ?_
  rintro e w1 ⟨rfl, hbl1, hbb1, ht1⟩
  replace hrow := ht1.block _ _ _ _ (by decide) (by decide) hrow
  have hbb : Below b w w1 := (hbel.mono (by omega)).trans hbb1
  have ht : Tame w w1 := (Tame.ofBelow hbel).trans ht1
  clear hbb1 ht1
  have c0 := cell_of_row w1 _ 0 _ _ _ hrow
  have c1 := cell_of_row w1 _ 1 _ _ _ hrow
  have c2 := cell_of_row w1 _ 2 _ _ _ hrow
  have c3 := cell_of_row w1 _ 3 _ _ _ hrow
  have c4 := cell_of_row w1 _ 4 _ _ _ hrow
  have c5 := cell_of_row w1 _ 5 _ _ _ hrow
  go_wp2_with fail
  refine (etext_any s (by omega) _).mono ?_
  rintro e w2 ⟨rfl, hb2⟩
  have hlt := lt_of_row hrow
  go_wp2_with fail
  refine (b_text b _ (textB s) _ (hbl1.later hb2) (by simp; omega) (by have := textB_size s hsm; omega)).mono ?_
  rintro e w3 ⟨rfl, hbl3, hbb3, ht3⟩
  go_wp2
  go_end0
  have hT : bytesT (.mk 4 bo n s m f q g) = [UInt8.ofNat (4 : Int).toNat] ++ textL s := by simp [bytesT]
  rw [hT]
  refine ⟨rfl, ⟨_, hbl3, ?_, ?_⟩, (hbb.trans (hb2.mono (by omega))).trans hbb3, (ht.trans (Tame.ofBelow hb2)).trans ht3⟩
  · rw [List.append_assoc]
    rw [textB_list]
    exact Aft.all _ _
  · rw [List.length_append, List.length_append, ← Lib.size_eq]
    have := textB_size s hsm; simp; omega
set_option maxRecDepth 100000 in
set_option maxHeartbeats 4000000 in
theorem put_5 {bo : Bool} {n : Int} {s : ByteArray} {m : Nat} {f : Nat → Tr} {q : Nat} {g : Nat → ByteArray} {d : Int} (hS : SoundP 5 bo n s m f q g d) (_hsm : s.size ≤ 4096) (ih : ∀ i, i < m → PutC (f i) (d + 1)) : PutC (.mk 5 bo n s m f q g) d := by
  intro B w x b l hL hB hbl hl
  have hlim := hL.lims
  replace hlim : -9223372036854775808 ≤ n ∧ n < 9223372036854775808 := hlim.2.1
  have hkb : IntKind.u8.wrap 5 = ((UInt8.ofNat (5 : Int).toNat).toNat : Int) := kindByte (by decide) (by decide)
  have hb0 := hbl.lt
  obtain ⟨pa, pc, na, nc⟩ := x
  have hV : (Tr.mk 5 bo n s m f q g).val ⟨pa, pc, na, nc⟩ = .agg #[.int .i64 5, .bool bo, .int .i64 n, .string s, .slice pa m pc, .slice na q nc] := rfl
  have hbel : Below w.heap.size w (w.alloc (.cells #[.int .i64 5, .bool bo, .int .i64 n, .string s, .slice pa m pc, .slice na q nc] 29)) := (Below.refl _ w).alloc (Nat.le_refl _) _
  have hrow := fresh_row w #[.int .i64 5, .bool bo, .int .i64 n, .string s, .slice pa m pc, .slice na q nc] 29
  have hby := fun W hW => b_byte b l (UInt8.ofNat (5 : Int).toNat) W hW (by omega) _ hkb
  rw [hV]
  clear hkb
  go_enter Tryd.func57, Tryd.ntmps57
  go_wp2_with fail
  refine (hby _ (hbl.later hbel)).mono ?_
  rintro e w1 ⟨rfl, hbl1, hbb1, ht1⟩
  replace hrow := ht1.block _ _ _ _ (by decide) (by decide) hrow
  have hbb : Below b w w1 := (hbel.mono (by omega)).trans hbb1
  have ht : Tame w w1 := (Tame.ofBelow hbel).trans ht1
  clear hbb1 ht1
  have c0 := cell_of_row w1 _ 0 _ _ _ hrow
  have c1 := cell_of_row w1 _ 1 _ _ _ hrow
  have c2 := cell_of_row w1 _ 2 _ _ _ hrow
  have c3 := cell_of_row w1 _ 3 _ _ _ hrow
  have c4 := cell_of_row w1 _ 4 _ _ _ hrow
  have c5 := cell_of_row w1 _ 5 _ _ _ hrow
  have hpp := parts_5 hS ih (hL.later (hbb.mono hB)) hB hbl1 (by simp; omega)
  rw [hV] at hpp
  go_wp2_with fail
  refine hpp.mono ?_
  rintro e w3 ⟨rfl, ⟨l3, hbl3, haf, hl3⟩, hbb3, ht3⟩
  go_wp2
  go_end0
  have hT : bytesT (.mk 5 bo n s m f q g) = [UInt8.ofNat (5 : Int).toNat] ++ (put m ++ cat m (fun i => (if (5 : Int) = 6 then textL (g i) else []) ++ bytesT (f i))) := by rw [bytesT]; simp
  rw [hT]
  exact ⟨rfl, ⟨l3, hbl3, haf.on, hl3⟩, hbb.trans hbb3, ht.trans ht3⟩
set_option maxRecDepth 100000 in
set_option maxHeartbeats 4000000 in
theorem put_6 {bo : Bool} {n : Int} {s : ByteArray} {m : Nat} {f : Nat → Tr} {q : Nat} {g : Nat → ByteArray} {d : Int} (hS : SoundP 6 bo n s m f q g d) (_hsm : s.size ≤ 4096) (ih : ∀ i, i < m → PutC (f i) (d + 1)) : PutC (.mk 6 bo n s m f q g) d := by
  intro B w x b l hL hB hbl hl
  have hlim := hL.lims
  replace hlim : -9223372036854775808 ≤ n ∧ n < 9223372036854775808 := hlim.2.1
  have hkb : IntKind.u8.wrap 6 = ((UInt8.ofNat (6 : Int).toNat).toNat : Int) := kindByte (by decide) (by decide)
  have hb0 := hbl.lt
  obtain ⟨pa, pc, na, nc⟩ := x
  have hV : (Tr.mk 6 bo n s m f q g).val ⟨pa, pc, na, nc⟩ = .agg #[.int .i64 6, .bool bo, .int .i64 n, .string s, .slice pa m pc, .slice na q nc] := rfl
  have hbel : Below w.heap.size w (w.alloc (.cells #[.int .i64 6, .bool bo, .int .i64 n, .string s, .slice pa m pc, .slice na q nc] 29)) := (Below.refl _ w).alloc (Nat.le_refl _) _
  have hrow := fresh_row w #[.int .i64 6, .bool bo, .int .i64 n, .string s, .slice pa m pc, .slice na q nc] 29
  have hby := fun W hW => b_byte b l (UInt8.ofNat (6 : Int).toNat) W hW (by omega) _ hkb
  rw [hV]
  clear hkb
  go_enter Tryd.func57, Tryd.ntmps57
  go_wp2_with fail
  refine (hby _ (hbl.later hbel)).mono ?_
  rintro e w1 ⟨rfl, hbl1, hbb1, ht1⟩
  replace hrow := ht1.block _ _ _ _ (by decide) (by decide) hrow
  have hbb : Below b w w1 := (hbel.mono (by omega)).trans hbb1
  have ht : Tame w w1 := (Tame.ofBelow hbel).trans ht1
  clear hbb1 ht1
  have c0 := cell_of_row w1 _ 0 _ _ _ hrow
  have c1 := cell_of_row w1 _ 1 _ _ _ hrow
  have c2 := cell_of_row w1 _ 2 _ _ _ hrow
  have c3 := cell_of_row w1 _ 3 _ _ _ hrow
  have c4 := cell_of_row w1 _ 4 _ _ _ hrow
  have c5 := cell_of_row w1 _ 5 _ _ _ hrow
  have hpp := parts_6 hS ih (hL.later (hbb.mono hB)) hB hbl1 (by simp; omega)
  rw [hV] at hpp
  go_wp2_with fail
  refine hpp.mono ?_
  rintro e w3 ⟨rfl, ⟨l3, hbl3, haf, hl3⟩, hbb3, ht3⟩
  go_wp2
  go_end0
  have hT : bytesT (.mk 6 bo n s m f q g) = [UInt8.ofNat (6 : Int).toNat] ++ (put m ++ cat m (fun i => (if (6 : Int) = 6 then textL (g i) else []) ++ bytesT (f i))) := by rw [bytesT]; simp
  rw [hT]
  exact ⟨rfl, ⟨l3, hbl3, haf.on, hl3⟩, hbb.trans hbb3, ht.trans ht3⟩
set_option maxRecDepth 100000 in
theorem put_all (t : Tr) : ∀ d, soundT t d = 0 → small t → PutC t d := by
  induction t with
  | no => exact fun _ _ _ _ _ _ _ _ hL => hL.no.elim
  | mk k b n s m f q g ih =>
    intro d hS hsm
    have hP := soundP hS
    have hc : ∀ i, i < m → PutC (f i) (d + 1) := fun i hi => ih i (d + 1) (hP.ch i hi) (hsm.2 i hi)
    have h0 := hP.k0
    have h6 := hP.k6
    obtain rfl | rfl | rfl | rfl | rfl | rfl | rfl : k = 0 ∨ k = 1 ∨ k = 2 ∨ k = 3 ∨ k = 4 ∨ k = 5 ∨ k = 6 := by omega
    · exact put_0 hP hsm.1
    · exact put_1 hP hsm.1
    · exact put_2 hP hsm.1
    · exact put_3 hP hsm.1
    · exact put_4 hP hsm.1
    · exact put_5 hP hsm.1 hc
    · exact put_6 hP hsm.1 hc
end Go.Proofs.YtfcenidepkjdcaaDoor.V
