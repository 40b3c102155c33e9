/- Keys of numbers (put, Of): a number's key behind other bytes. -/
import Derived.Test.YtaacbcnpagpdnaaDoorKkey
import Derived.Test.YtaacbcnpagpdnaaDoorSimp
namespace Go.Proofs.YtaacbcnpagpdnaaDoor
open Go.RowKit
set_option maxRecDepth 100000 in
set_option maxHeartbeats 4000000 in
theorem kput_0 {bo : Bool} {n : Int} {s : ByteArray} {m : Nat} {f : Nat → Tr} {q : Nat} {g : Nat → ByteArray} : KputC (.mk 0 bo n s m f q g) := by
  intro B w x b l hL hB hbl hl
  have hlim := hL.lims
  replace hlim : -9223372036854775808 ≤ n ∧ n < 9223372036854775808 := hlim.2.1
  have hkb : IntKind.u8.wrap 0 = ((UInt8.ofNat (0 : Int).toNat).toNat : Int) := kindByte (by decide) (by decide)
  have hb0 := hbl.lt
  obtain ⟨pa, pc, na, nc⟩ := x
  have hV : (Tr.mk 0 bo n s m f q g).val ⟨pa, pc, na, nc⟩ = .agg #[.int .i64 0, .bool bo, .int .i64 n, .string s, .slice pa m pc, .slice na q nc] := rfl
  have hbel : Below w.heap.size w (w.alloc (.cells #[.int .i64 0, .bool bo, .int .i64 n, .string s, .slice pa m pc, .slice na q nc] 25)) := (Below.refl _ w).alloc (Nat.le_refl _) _
  have hrow := fresh_row w #[.int .i64 0, .bool bo, .int .i64 n, .string s, .slice pa m pc, .slice na q nc] 25
  have hT : keyT (.mk 0 bo n s m f q g) = [UInt8.ofNat (0 : Int).toNat] ++ [] := by simp [keyT]
  have hl1 : l.length ≤ 900000 := by omega
  rw [hT] at hl
  obtain ⟨KT, hK⟩ : ∃ KT, keyT (.mk 0 bo n s m f q g) = KT := ⟨_, rfl⟩
  rw [hK] at hT ⊢
  have HT : Hid (KT = [UInt8.ofNat (0 : Int).toNat] ++ []) := hT
  have hby := fun W hW => b_byte b l (UInt8.ofNat (0 : Int).toNat) W hW (by omega) _ hkb
  rw [hV]
  clear hkb hT hK
  go_enter Tryd.func29, Tryd.ntmps29
  go_wp2_with fail
  refine (hby _ (hbl.later hbel)).mono ?_
  rintro e w1 ⟨rfl, hbl1, hbb1, ht1⟩
  replace hrow := ht1.block _ _ _ _ (by decide) (by decide) hrow
  have hbb : Below b w w1 := (hbel.mono (by omega)).trans hbb1
  have ht : Tame w w1 := (Tame.ofBelow hbel).trans ht1
  clear hbb1 ht1
  have c0 := cell_of_row w1 _ 0 _ _ _ hrow
  have c1 := cell_of_row w1 _ 1 _ _ _ hrow
  have c2 := cell_of_row w1 _ 2 _ _ _ hrow
  have c3 := cell_of_row w1 _ 3 _ _ _ hrow
  have c4 := cell_of_row w1 _ 4 _ _ _ hrow
  have c5 := cell_of_row w1 _ 5 _ _ _ hrow
  go_wp2
  go_end0
  exact ⟨rfl, by rw [HT.out, List.append_nil]; exact hbl1, hbb, ht⟩
set_option maxRecDepth 100000 in
set_option maxHeartbeats 4000000 in
theorem kput_2 {bo : Bool} {n : Int} {s : ByteArray} {m : Nat} {f : Nat → Tr} {q : Nat} {g : Nat → ByteArray} : KputC (.mk 2 bo n s m f q g) := by
  intro B w x b l hL hB hbl hl
  have hlim := hL.lims
  replace hlim : -9223372036854775808 ≤ n ∧ n < 9223372036854775808 := hlim.2.1
  have hkb : IntKind.u8.wrap 2 = ((UInt8.ofNat (2 : Int).toNat).toNat : Int) := kindByte (by decide) (by decide)
  have hb0 := hbl.lt
  obtain ⟨pa, pc, na, nc⟩ := x
  have hV : (Tr.mk 2 bo n s m f q g).val ⟨pa, pc, na, nc⟩ = .agg #[.int .i64 2, .bool bo, .int .i64 n, .string s, .slice pa m pc, .slice na q nc] := rfl
  have hbel : Below w.heap.size w (w.alloc (.cells #[.int .i64 2, .bool bo, .int .i64 n, .string s, .slice pa m pc, .slice na q nc] 25)) := (Below.refl _ w).alloc (Nat.le_refl _) _
  have hrow := fresh_row w #[.int .i64 2, .bool bo, .int .i64 n, .string s, .slice pa m pc, .slice na q nc] 25
  have hT : keyT (.mk 2 bo n s m f q g) = [UInt8.ofNat (2 : Int).toNat] ++ be8 (turnN n) := by simp [keyT]
  have hl1 : l.length ≤ 900000 := by omega
  rw [hT] at hl
  obtain ⟨KT, hK⟩ : ∃ KT, keyT (.mk 2 bo n s m f q g) = KT := ⟨_, rfl⟩
  rw [hK] at hT ⊢
  have HT : Hid (KT = [UInt8.ofNat (2 : Int).toNat] ++ be8 (turnN n)) := hT
  have hby := fun W hW => b_byte b l (UInt8.ofNat (2 : Int).toNat) W hW (by omega) _ hkb
  rw [hV]
  clear hkb hT hK
  go_enter Tryd.func29, Tryd.ntmps29
  go_wp2_with fail
  refine (hby _ (hbl.later hbel)).mono ?_
  rintro e w1 ⟨rfl, hbl1, hbb1, ht1⟩
  replace hrow := ht1.block _ _ _ _ (by decide) (by decide) hrow
  have hbb : Below b w w1 := (hbel.mono (by omega)).trans hbb1
  have ht : Tame w w1 := (Tame.ofBelow hbel).trans ht1
  clear hbb1 ht1
  have c0 := cell_of_row w1 _ 0 _ _ _ hrow
  have c1 := cell_of_row w1 _ 1 _ _ _ hrow
  have c2 := cell_of_row w1 _ 2 _ _ _ hrow
  have c3 := cell_of_row w1 _ 3 _ _ _ hrow
  have c4 := cell_of_row w1 _ 4 _ _ _ hrow
  have c5 := cell_of_row w1 _ 5 _ _ _ hrow
  have htn := turn_bits hlim.1 hlim.2
  have htl := turnN_lt hlim.2
  have h8 : (⟨(be8 (turnN n)).toArray⟩ : ByteArray).size = 8 := by show (be8 (turnN n)).toArray.size = 8; rw [List.size_toArray, be8_len]
  have hlt := lt_of_row hrow
  go_wp2_with fail
  refine (number_any (turnN n) htl _).mono ?_
  rintro e w2 ⟨rfl, hb2⟩
  go_wp2_with fail
  refine (b_text b _ ⟨(be8 (turnN n)).toArray⟩ _ (hbl1.later hb2) (by simp; omega) (by omega)).mono ?_
  rintro e w3 ⟨rfl, hbl3, hbb3, ht3⟩
  replace hbb3 : Below b w1 w3 := (hb2.mono (by omega)).trans hbb3
  replace ht3 : Tame w1 w3 := (Tame.ofBelow hb2).trans ht3
  go_wp2
  go_end0
  rw [HT.out, ← List.append_assoc]
  exact ⟨rfl, hbl3, hbb.trans hbb3, ht.trans ht3⟩
set_option maxRecDepth 100000 in
set_option maxHeartbeats 4000000 in
theorem of_any {t : Tr} {B : Nat} {w : World} {x : Ad} (hp : KputC t) (hL : Lies B w t x) (hB : B ≤ w.heap.size) (hlen : (keyT t).length ≤ 900000) :
    Calls Tryd.prog 13 #[t.val x] w fun e w' => e = .returned (.string ⟨(keyT t).toArray⟩) ∧ Below w.heap.size w w' := by
  have hne : keyT t ≠ [] := by cases t <;> rw [keyT] <;> simp
  have hV : t.val x = .agg #[.int .i64 t.k, .bool t.b, .int .i64 t.n, .string t.s, .slice x.pa t.m x.pc, .slice x.na t.q x.nc] := rfl
  have hpt := fun (W : World) (b : Nat) (hb : Below B w W) (hBb : B ≤ b) (hbl : Bld W b []) => hp B W x b [] (hL.later hb) hBb hbl (by simpa using hlen)
  rw [hV] at hpt ⊢
  rw [List.nil_append] at hpt
  have hbel : Below w.heap.size w (w.alloc (.cells #[.int .i64 t.k, .bool t.b, .int .i64 t.n, .string t.s, .slice x.pa t.m x.pc, .slice x.na t.q x.nc] 25)) := (Below.refl _ w).alloc (Nat.le_refl _) _
  have hrow := fresh_row w #[.int .i64 t.k, .bool t.b, .int .i64 t.n, .string t.s, .slice x.pa t.m x.pc, .slice x.na t.q x.nc] 25
  obtain ⟨w1, hw1⟩ : ∃ w1, w.alloc (.cells #[.int .i64 t.k, .bool t.b, .int .i64 t.n, .string t.s, .slice x.pa t.m x.pc, .slice x.na t.q x.nc] 25) = w1 := ⟨_, rfl⟩
  have hs1 : w1.heap.size = w.heap.size + 1 := by rw [← hw1]; simp
  rw [hw1] at hbel hrow
  have hbl := bld_new w1
  have hb2 : Below w1.heap.size w1 (w1.alloc (.cells #[.pointer none, .slice none 0 0] 59)) := (Below.refl _ w1).alloc (Nat.le_refl _) _
  have hrow2 := (hb2.block _ (by omega)).trans hrow
  have c0 := cell_of_row _ _ 0 _ _ _ hrow2
  have c1 := cell_of_row _ _ 1 _ _ _ hrow2
  have c2 := cell_of_row _ _ 2 _ _ _ hrow2
  have c3 := cell_of_row _ _ 3 _ _ _ hrow2
  have c4 := cell_of_row _ _ 4 _ _ _ hrow2
  have c5 := cell_of_row _ _ 5 _ _ _ hrow2
  have hbB : Below w.heap.size w (w1.alloc (.cells #[.pointer none, .slice none 0 0] 59)) := hbel.trans (hb2.mono (by omega))
  go_enter Tryd.func13, Tryd.ntmps13
  go_wp2_with fail
  rw [hs1] at hbl
  refine (hpt _ _ (hbB.mono hB) (by omega) hbl).mono ?_
  rintro e w3 ⟨rfl, hbl3, hbb3, ht3⟩
  clear c0 c1 c2 c3 c4 c5
  go_wp2_with fail
  refine (b_string _ _ _ hbl3 hne).mono ?_
  rintro e w4 ⟨rfl, hb4⟩
  go_wp2
  go_ret
  exact ⟨rfl, (hbB.trans (hbb3.mono (by omega))).trans (hb4.mono (by omega))⟩
theorem kleaf_key (n : Int) : keyT (leafT 2 false n ⟨#[]⟩) = 2 :: be8 (turnN n) := by
  unfold leafT
  rw [keyT]
  rfl
theorem kof_int (n : Int) (h0 : -9223372036854775808 ≤ n) (h1 : n < 9223372036854775808) (w : World) :
    Calls Tryd.prog 13 #[(leafT 2 false n ⟨#[]⟩).val ⟨none, 0, none, 0⟩] w fun e w' => e = .returned (.string ⟨(2 :: be8 (turnN n)).toArray⟩) ∧ Below w.heap.size w w' := by
  have := of_any (t := leafT 2 false n ⟨#[]⟩) (B := w.heap.size) (w := w) (x := ⟨none, 0, none, 0⟩) kput_2 (lies_leaf ⟨by omega, by omega⟩ ⟨h0, h1⟩ (Nat.zero_le _)) (Nat.le_refl _) (by rw [kleaf_key]; simp [be8_len])
  rw [kleaf_key] at this
  exact this
end Go.Proofs.YtaacbcnpagpdnaaDoor
