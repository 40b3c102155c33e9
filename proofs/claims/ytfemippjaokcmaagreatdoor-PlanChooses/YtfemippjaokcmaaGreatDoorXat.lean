/- The simple values (None, Bool, Int, Str, Bytes). A value's key behind other bytes (put, putParts), and alone (Of): of any sound value. The document's eight bytes of a number (eight), and a text's bytes in a key (text). -/
import Derived.Test.YtfemippjaokcmaaGreatDoorXas
import Derived.Test.YtfemippjaokcmaaGreatDoorXaq
namespace Go.Proofs.YtfemippjaokcmaaGreatDoor.V
open Go.RowKit
set_option maxRecDepth 100000 in
set_option maxHeartbeats 1000000 in
theorem vint (n : Int) (w : World) : Calls Tryz.prog 24 #[.int .i64 n] w fun r w' => r = .returned ((leafT 2 false n ⟨#[]⟩).val ⟨none, 0, none, 0⟩) ∧ Below w.heap.size w w' := by
  go_enter Tryz.func24, Tryz.ntmps24
  go_wp2
  exact bodyPost_ret (v := .agg #[.int .i64 2, .bool false, .int .i64 n, .string ⟨#[]⟩, .slice none 0 0, .slice none 0 0]) (by simp [results, Tryz.results24, go_sem]) rfl ⟨rfl, (Below.refl _ _).alloc (Nat.le_refl _) _⟩
end Go.Proofs.YtfemippjaokcmaaGreatDoor.V
namespace Go.Proofs.YtfemippjaokcmaaGreatDoor.V
open Go.RowKit
def KputG (t : Tr) : Prop := ∀ (B : Nat) (w : World) (x : Ad) (b : Nat) (l : List UInt8), Gm w → 0 < b → Lies B w t x → B ≤ b → Bld w b l → l.length + (keyT t).length ≤ 900000 →
    Calls Tryz.prog 73 #[.pointer (some ⟨b, 0, none⟩), t.val x] w fun e w' => e = .returned (.tuple #[]) ∧ Bld w' b (l ++ keyT t) ∧ Below b w w' ∧ Tame w w'
set_option maxRecDepth 100000 in
set_option maxHeartbeats 4000000 in
theorem kputg_0 {bo : Bool} {n : Int} {s : ByteArray} {m : Nat} {f : Nat → Tr} {q : Nat} {g : Nat → ByteArray} : KputG (.mk 0 bo n s m f q g) := by
  intro B w x b l hg hb1 hL hB hbl hl
  have hlim := hL.lims
  replace hlim : -9223372036854775808 ≤ n ∧ n < 9223372036854775808 := hlim.2.1
  have hkb : IntKind.u8.wrap 0 = ((UInt8.ofNat (0 : Int).toNat).toNat : Int) := kindByte (by decide) (by decide)
  have hb0 := hbl.lt
  obtain ⟨pa, pc, na, nc⟩ := x
  have hV : (Tr.mk 0 bo n s m f q g).val ⟨pa, pc, na, nc⟩ = .agg #[.int .i64 0, .bool bo, .int .i64 n, .string s, .slice pa m pc, .slice na q nc] := rfl
  have hbel : Below w.heap.size w (w.alloc (.cells #[.int .i64 0, .bool bo, .int .i64 n, .string s, .slice pa m pc, .slice na q nc] 25)) := (Below.refl _ w).alloc (Nat.le_refl _) _
  have hrow := fresh_row w #[.int .i64 0, .bool bo, .int .i64 n, .string s, .slice pa m pc, .slice na q nc] 25
  have hT : keyT (.mk 0 bo n s m f q g) = [UInt8.ofNat (0 : Int).toNat] ++ [] := by simp [keyT]
  have hl1 : l.length ≤ 900000 := by omega
  rw [hT] at hl
  have HLL : Hid (l.length + ([UInt8.ofNat (0 : Int).toNat] ++ []).length ≤ 900000) := hl
  clear hl
  obtain ⟨KT, hK⟩ : ∃ KT, keyT (.mk 0 bo n s m f q g) = KT := ⟨_, rfl⟩
  rw [hK] at hT ⊢
  have HT : Hid (KT = [UInt8.ofNat (0 : Int).toNat] ++ []) := hT
  have hby := fun W hW => b_byte b l (UInt8.ofNat (0 : Int).toNat) W hW (by omega) _ hkb
  rw [hV]
  clear hkb hT hK
  go_enter Tryz.func73, Tryz.ntmps73
  go_wp2_with fail
  refine (hby _ (hbl.later hbel)).mono ?_
  rintro e w1 ⟨rfl, hbl1, hbb1, ht1⟩
  replace hrow := ht1.block _ _ _ _ (by decide) (by decide) hrow
  have hbb : Below b w w1 := (hbel.mono (by omega)).trans hbb1
  have ht : Tame w w1 := (Tame.ofBelow hbel).trans ht1
  clear hbb1 ht1
  have c0 := cell_of_row w1 _ 0 _ _ _ hrow
  have c1 := cell_of_row w1 _ 1 _ _ _ hrow
  have c2 := cell_of_row w1 _ 2 _ _ _ hrow
  have c3 := cell_of_row w1 _ 3 _ _ _ hrow
  have c4 := cell_of_row w1 _ 4 _ _ _ hrow
  have c5 := cell_of_row w1 _ 5 _ _ _ hrow
  go_wp2
  go_end0
  exact ⟨rfl, by rw [HT.out, List.append_nil]; exact hbl1, hbb, ht⟩
set_option maxRecDepth 100000 in
set_option maxHeartbeats 4000000 in
theorem kputg_1 {bo : Bool} {n : Int} {s : ByteArray} {m : Nat} {f : Nat → Tr} {q : Nat} {g : Nat → ByteArray} : KputG (.mk 1 bo n s m f q g) := by
  intro B w x b l hg hb1 hL hB hbl hl
  have hlim := hL.lims
  replace hlim : -9223372036854775808 ≤ n ∧ n < 9223372036854775808 := hlim.2.1
  have hkb : IntKind.u8.wrap 1 = ((UInt8.ofNat (1 : Int).toNat).toNat : Int) := kindByte (by decide) (by decide)
  have hb0 := hbl.lt
  obtain ⟨pa, pc, na, nc⟩ := x
  have hV : (Tr.mk 1 bo n s m f q g).val ⟨pa, pc, na, nc⟩ = .agg #[.int .i64 1, .bool bo, .int .i64 n, .string s, .slice pa m pc, .slice na q nc] := rfl
  have hbel : Below w.heap.size w (w.alloc (.cells #[.int .i64 1, .bool bo, .int .i64 n, .string s, .slice pa m pc, .slice na q nc] 25)) := (Below.refl _ w).alloc (Nat.le_refl _) _
  have hrow := fresh_row w #[.int .i64 1, .bool bo, .int .i64 n, .string s, .slice pa m pc, .slice na q nc] 25
  have hT : keyT (.mk 1 bo n s m f q g) = [UInt8.ofNat (1 : Int).toNat] ++ [if bo then 1 else 0] := by simp [keyT]
  have hl1 : l.length ≤ 900000 := by omega
  rw [hT] at hl
  have HLL : Hid (l.length + ([UInt8.ofNat (1 : Int).toNat] ++ [if bo then 1 else 0]).length ≤ 900000) := hl
  clear hl
  obtain ⟨KT, hK⟩ : ∃ KT, keyT (.mk 1 bo n s m f q g) = KT := ⟨_, rfl⟩
  rw [hK] at hT ⊢
  have HT : Hid (KT = [UInt8.ofNat (1 : Int).toNat] ++ [if bo then 1 else 0]) := hT
  have hby := fun W hW => b_byte b l (UInt8.ofNat (1 : Int).toNat) W hW (by omega) _ hkb
  rw [hV]
  clear hkb hT hK
  go_enter Tryz.func73, Tryz.ntmps73
  go_wp2_with fail
  refine (hby _ (hbl.later hbel)).mono ?_
  rintro e w1 ⟨rfl, hbl1, hbb1, ht1⟩
  replace hrow := ht1.block _ _ _ _ (by decide) (by decide) hrow
  have hbb : Below b w w1 := (hbel.mono (by omega)).trans hbb1
  have ht : Tame w w1 := (Tame.ofBelow hbel).trans ht1
  clear hbb1 ht1
  have c0 := cell_of_row w1 _ 0 _ _ _ hrow
  have c1 := cell_of_row w1 _ 1 _ _ _ hrow
  have c2 := cell_of_row w1 _ 2 _ _ _ hrow
  have c3 := cell_of_row w1 _ 3 _ _ _ hrow
  have c4 := cell_of_row w1 _ 4 _ _ _ hrow
  have c5 := cell_of_row w1 _ 5 _ _ _ hrow
  go_wp2_with fail
  refine (putBool_any b _ bo w1 hbl1 (by simp; omega)).mono ?_
  rintro e w3 ⟨rfl, hbl3, hbb3, ht3⟩
  go_wp2
  go_end0
  rw [HT.out, ← List.append_assoc]
  exact ⟨rfl, hbl3, hbb.trans hbb3, ht.trans ht3⟩
set_option maxRecDepth 100000 in
set_option maxHeartbeats 4000000 in
theorem kputg_2 {bo : Bool} {n : Int} {s : ByteArray} {m : Nat} {f : Nat → Tr} {q : Nat} {g : Nat → ByteArray} : KputG (.mk 2 bo n s m f q g) := by
  intro B w x b l hg hb1 hL hB hbl hl
  have hlim := hL.lims
  replace hlim : -9223372036854775808 ≤ n ∧ n < 9223372036854775808 := hlim.2.1
  have hkb : IntKind.u8.wrap 2 = ((UInt8.ofNat (2 : Int).toNat).toNat : Int) := kindByte (by decide) (by decide)
  have hb0 := hbl.lt
  obtain ⟨pa, pc, na, nc⟩ := x
  have hV : (Tr.mk 2 bo n s m f q g).val ⟨pa, pc, na, nc⟩ = .agg #[.int .i64 2, .bool bo, .int .i64 n, .string s, .slice pa m pc, .slice na q nc] := rfl
  have hbel : Below w.heap.size w (w.alloc (.cells #[.int .i64 2, .bool bo, .int .i64 n, .string s, .slice pa m pc, .slice na q nc] 25)) := (Below.refl _ w).alloc (Nat.le_refl _) _
  have hrow := fresh_row w #[.int .i64 2, .bool bo, .int .i64 n, .string s, .slice pa m pc, .slice na q nc] 25
  have hT : keyT (.mk 2 bo n s m f q g) = [UInt8.ofNat (2 : Int).toNat] ++ be8 (turnN n) := by simp [keyT]
  have hl1 : l.length ≤ 900000 := by omega
  rw [hT] at hl
  have HLL : Hid (l.length + ([UInt8.ofNat (2 : Int).toNat] ++ be8 (turnN n)).length ≤ 900000) := hl
  clear hl
  obtain ⟨KT, hK⟩ : ∃ KT, keyT (.mk 2 bo n s m f q g) = KT := ⟨_, rfl⟩
  rw [hK] at hT ⊢
  have HT : Hid (KT = [UInt8.ofNat (2 : Int).toNat] ++ be8 (turnN n)) := hT
  have hby := fun W hW => b_byte b l (UInt8.ofNat (2 : Int).toNat) W hW (by omega) _ hkb
  rw [hV]
  clear hkb hT hK
  go_enter Tryz.func73, Tryz.ntmps73
  go_wp2_with fail
  refine (hby _ (hbl.later hbel)).mono ?_
  rintro e w1 ⟨rfl, hbl1, hbb1, ht1⟩
  replace hrow := ht1.block _ _ _ _ (by decide) (by decide) hrow
  have hbb : Below b w w1 := (hbel.mono (by omega)).trans hbb1
  have ht : Tame w w1 := (Tame.ofBelow hbel).trans ht1
  clear hbb1 ht1
  have c0 := cell_of_row w1 _ 0 _ _ _ hrow
  have c1 := cell_of_row w1 _ 1 _ _ _ hrow
  have c2 := cell_of_row w1 _ 2 _ _ _ hrow
  have c3 := cell_of_row w1 _ 3 _ _ _ hrow
  have c4 := cell_of_row w1 _ 4 _ _ _ hrow
  have c5 := cell_of_row w1 _ 5 _ _ _ hrow
  have htn := turn_bits hlim.1 hlim.2
  have htl := turnN_lt hlim.2
  have h8 : (⟨(be8 (turnN n)).toArray⟩ : ByteArray).size = 8 := by show (be8 (turnN n)).toArray.size = 8; rw [List.size_toArray, be8_len]
  have hlt := lt_of_row hrow
  go_wp2_with fail
  refine (number_any (turnN n) htl _).mono ?_
  rintro e w2 ⟨rfl, hb2⟩
  go_wp2_with fail
  refine (b_text b _ ⟨(be8 (turnN n)).toArray⟩ _ (hbl1.later hb2) (by simp; omega) (by omega)).mono ?_
  rintro e w3 ⟨rfl, hbl3, hbb3, ht3⟩
  replace hbb3 : Below b w1 w3 := (hb2.mono (by omega)).trans hbb3
  replace ht3 : Tame w1 w3 := (Tame.ofBelow hb2).trans ht3
  go_wp2
  go_end0
  rw [HT.out, ← List.append_assoc]
  exact ⟨rfl, hbl3, hbb.trans hbb3, ht.trans ht3⟩
set_option maxRecDepth 100000 in
set_option maxHeartbeats 4000000 in
theorem kputg_3 {bo : Bool} {n : Int} {s : ByteArray} {m : Nat} {f : Nat → Tr} {q : Nat} {g : Nat → ByteArray} (hsz : s.size ≤ 4096) : KputG (.mk 3 bo n s m f q g) := by
  intro B w x b l hg hb1 hL hB hbl hl
  have hlim := hL.lims
  replace hlim : -9223372036854775808 ≤ n ∧ n < 9223372036854775808 := hlim.2.1
  have hkb : IntKind.u8.wrap 3 = ((UInt8.ofNat (3 : Int).toNat).toNat : Int) := kindByte (by decide) (by decide)
  have hb0 := hbl.lt
  obtain ⟨pa, pc, na, nc⟩ := x
  have hV : (Tr.mk 3 bo n s m f q g).val ⟨pa, pc, na, nc⟩ = .agg #[.int .i64 3, .bool bo, .int .i64 n, .string s, .slice pa m pc, .slice na q nc] := rfl
  have hbel : Below w.heap.size w (w.alloc (.cells #[.int .i64 3, .bool bo, .int .i64 n, .string s, .slice pa m pc, .slice na q nc] 25)) := (Below.refl _ w).alloc (Nat.le_refl _) _
  have hrow := fresh_row w #[.int .i64 3, .bool bo, .int .i64 n, .string s, .slice pa m pc, .slice na q nc] 25
  have hT : keyT (.mk 3 bo n s m f q g) = [UInt8.ofNat (3 : Int).toNat] ++ ktextL s := by simp [keyT]
  have hl1 : l.length ≤ 900000 := by omega
  rw [hT] at hl
  have HLL : Hid (l.length + ([UInt8.ofNat (3 : Int).toNat] ++ ktextL s).length ≤ 900000) := hl
  clear hl
  obtain ⟨KT, hK⟩ : ∃ KT, keyT (.mk 3 bo n s m f q g) = KT := ⟨_, rfl⟩
  rw [hK] at hT ⊢
  have HT : Hid (KT = [UInt8.ofNat (3 : Int).toNat] ++ ktextL s) := hT
  have hby := fun W hW => b_byte b l (UInt8.ofNat (3 : Int).toNat) W hW (by omega) _ hkb
  rw [hV]
  clear hkb hT hK
  go_enter Tryz.func73, Tryz.ntmps73
  go_wp2_with fail
  refine (hby _ (hbl.later hbel)).mono ?_
  rintro e w1 ⟨rfl, hbl1, hbb1, ht1⟩
  replace hrow := ht1.block _ _ _ _ (by decide) (by decide) hrow
  have hbb : Below b w w1 := (hbel.mono (by omega)).trans hbb1
  have ht : Tame w w1 := (Tame.ofBelow hbel).trans ht1
  clear hbb1 ht1
  have c0 := cell_of_row w1 _ 0 _ _ _ hrow
  have c1 := cell_of_row w1 _ 1 _ _ _ hrow
  have c2 := cell_of_row w1 _ 2 _ _ _ hrow
  have c3 := cell_of_row w1 _ 3 _ _ _ hrow
  have c4 := cell_of_row w1 _ 4 _ _ _ hrow
  have c5 := cell_of_row w1 _ 5 _ _ _ hrow
  go_wp2_with fail
  refine (putText_any b _ s w1 (hg.later hbb hb1) hbl1 (by simp; omega) hsz).mono ?_
  rintro e w3 ⟨rfl, hbl3, hbb3, ht3⟩
  go_wp2
  go_end0
  rw [HT.out, ← List.append_assoc]
  exact ⟨rfl, hbl3, hbb.trans hbb3, ht.trans ht3⟩
set_option maxRecDepth 100000 in
set_option maxHeartbeats 4000000 in
theorem kputg_4 {bo : Bool} {n : Int} {s : ByteArray} {m : Nat} {f : Nat → Tr} {q : Nat} {g : Nat → ByteArray} (hsz : s.size ≤ 4096) : KputG (.mk 4 bo n s m f q g) := by
  intro B w x b l hg hb1 hL hB hbl hl
  have hlim := hL.lims
  replace hlim : -9223372036854775808 ≤ n ∧ n < 9223372036854775808 := hlim.2.1
  have hkb : IntKind.u8.wrap 4 = ((UInt8.ofNat (4 : Int).toNat).toNat : Int) := kindByte (by decide) (by decide)
  have hb0 := hbl.lt
  obtain ⟨pa, pc, na, nc⟩ := x
  have hV : (Tr.mk 4 bo n s m f q g).val ⟨pa, pc, na, nc⟩ = .agg #[.int .i64 4, .bool bo, .int .i64 n, .string s, .slice pa m pc, .slice na q nc] := rfl
  have hbel : Below w.heap.size w (w.alloc (.cells #[.int .i64 4, .bool bo, .int .i64 n, .string s, .slice pa m pc, .slice na q nc] 25)) := (Below.refl _ w).alloc (Nat.le_refl _) _
  have hrow := fresh_row w #[.int .i64 4, .bool bo, .int .i64 n, .string s, .slice pa m pc, .slice na q nc] 25
  have hT : keyT (.mk 4 bo n s m f q g) = [UInt8.ofNat (4 : Int).toNat] ++ ktextL s := by simp [keyT]
  have hl1 : l.length ≤ 900000 := by omega
  rw [hT] at hl
  have HLL : Hid (l.length + ([UInt8.ofNat (4 : Int).toNat] ++ ktextL s).length ≤ 900000) := hl
  clear hl
  obtain ⟨KT, hK⟩ : ∃ KT, keyT (.mk 4 bo n s m f q g) = KT := ⟨_, rfl⟩
  rw [hK] at hT ⊢
  have HT : Hid (KT = [UInt8.ofNat (4 : Int).toNat] ++ ktextL s) := hT
  have hby := fun W hW => b_byte b l (UInt8.ofNat (4 : Int).toNat) W hW (by omega) _ hkb
  rw [hV]
  clear hkb hT hK
  go_enter Tryz.func73, Tryz.ntmps73
  go_wp2_with fail
  refine (hby _ (hbl.later hbel)).mono ?_
  rintro e w1 ⟨rfl, hbl1, hbb1, ht1⟩
  replace hrow := ht1.block _ _ _ _ (by decide) (by decide) hrow
  have hbb : Below b w w1 := (hbel.mono (by omega)).trans hbb1
  have ht : Tame w w1 := (Tame.ofBelow hbel).trans ht1
  clear hbb1 ht1
  have c0 := cell_of_row w1 _ 0 _ _ _ hrow
  have c1 := cell_of_row w1 _ 1 _ _ _ hrow
  have c2 := cell_of_row w1 _ 2 _ _ _ hrow
  have c3 := cell_of_row w1 _ 3 _ _ _ hrow
  have c4 := cell_of_row w1 _ 4 _ _ _ hrow
  have c5 := cell_of_row w1 _ 5 _ _ _ hrow
  go_wp2_with fail
  refine (putText_any b _ s w1 (hg.later hbb hb1) hbl1 (by simp; omega) hsz).mono ?_
  rintro e w3 ⟨rfl, hbl3, hbb3, ht3⟩
  go_wp2
  go_end0
  rw [HT.out, ← List.append_assoc]
  exact ⟨rfl, hbl3, hbb.trans hbb3, ht.trans ht3⟩
set_option maxRecDepth 100000 in
set_option maxHeartbeats 4000000 in
theorem ofg_any {t : Tr} {B : Nat} {w : World} {x : Ad} (hp : KputG t) (hg : Gm w) (hw0 : 0 < w.heap.size) (hL : Lies B w t x) (hB : B ≤ w.heap.size) (hlen : (keyT t).length ≤ 900000) :
    Calls Tryz.prog 46 #[t.val x] w fun e w' => e = .returned (.string ⟨(keyT t).toArray⟩) ∧ Below w.heap.size w w' := by
  have hne : keyT t ≠ [] := by cases t <;> rw [keyT] <;> simp
  have hV : t.val x = .agg #[.int .i64 t.k, .bool t.b, .int .i64 t.n, .string t.s, .slice x.pa t.m x.pc, .slice x.na t.q x.nc] := rfl
  have hpt := fun (W : World) (b : Nat) (hb : Below B w W) (hBb : B ≤ b) (hbl : Bld W b []) (hgW : Gm W) (hb0 : 0 < b) => hp B W x b [] hgW hb0 (hL.later hb) hBb hbl (by simpa using hlen)
  rw [hV] at hpt ⊢
  rw [List.nil_append] at hpt
  have hbel : Below w.heap.size w (w.alloc (.cells #[.int .i64 t.k, .bool t.b, .int .i64 t.n, .string t.s, .slice x.pa t.m x.pc, .slice x.na t.q x.nc] 25)) := (Below.refl _ w).alloc (Nat.le_refl _) _
  have hrow := fresh_row w #[.int .i64 t.k, .bool t.b, .int .i64 t.n, .string t.s, .slice x.pa t.m x.pc, .slice x.na t.q x.nc] 25
  obtain ⟨w1, hw1⟩ : ∃ w1, w.alloc (.cells #[.int .i64 t.k, .bool t.b, .int .i64 t.n, .string t.s, .slice x.pa t.m x.pc, .slice x.na t.q x.nc] 25) = w1 := ⟨_, rfl⟩
  have hs1 : w1.heap.size = w.heap.size + 1 := by rw [← hw1]; simp
  rw [hw1] at hbel hrow
  have hbl := bld_new w1
  have hb2 : Below w1.heap.size w1 (w1.alloc (.cells #[.pointer none, .slice none 0 0] 112)) := (Below.refl _ w1).alloc (Nat.le_refl _) _
  have hrow2 := (hb2.block _ (by omega)).trans hrow
  have c0 := cell_of_row _ _ 0 _ _ _ hrow2
  have c1 := cell_of_row _ _ 1 _ _ _ hrow2
  have c2 := cell_of_row _ _ 2 _ _ _ hrow2
  have c3 := cell_of_row _ _ 3 _ _ _ hrow2
  have c4 := cell_of_row _ _ 4 _ _ _ hrow2
  have c5 := cell_of_row _ _ 5 _ _ _ hrow2
  have hbB : Below w.heap.size w (w1.alloc (.cells #[.pointer none, .slice none 0 0] 112)) := hbel.trans (hb2.mono (by omega))
  go_enter Tryz.func46, Tryz.ntmps46
  go_wp2_with fail
  rw [hs1] at hbl
  refine (hpt _ _ (hbB.mono hB) (by omega) hbl (hg.later hbB hw0) (by omega)).mono ?_
  rintro e w3 ⟨rfl, hbl3, hbb3, ht3⟩
  clear c0 c1 c2 c3 c4 c5
  go_wp2_with fail
  refine (b_string _ _ _ hbl3 hne).mono ?_
  rintro e w4 ⟨rfl, hb4⟩
  go_wp2
  go_ret
  exact ⟨rfl, (hbB.trans (hbb3.mono (by omega))).trans (hb4.mono (by omega))⟩
end Go.Proofs.YtfemippjaokcmaaGreatDoor.V
namespace Go.Proofs.YtfemippjaokcmaaGreatDoor.V
open Go.RowKit
set_option maxRecDepth 100000 in
theorem be8_drop (n i : Nat) (h : i < 8) : (be8 n).drop (7 - i) = UInt8.ofNat (n / 256 ^ i % 256) :: (be8 n).drop (8 - i) := by
  have e : 8 - i = 7 - i + 1 := by omega
  rw [e, List.drop_eq_getElem_cons (by rw [be8_len]; omega)]
  congr 1
  simp only [be8, List.getElem_map, List.getElem_range]
  have e2 : 56 - 8 * (7 - i) = 8 * i := by omega
  have e3 : (2 : Nat) ^ (8 * i) = 256 ^ i := by rw [Nat.pow_mul]
  rw [e2, e3]
  exact UInt8.toNat_inj.1 (by simp [UInt8.toNat_ofNat'])
set_option maxRecDepth 100000 in
theorem cat_list (a b : ByteArray) : (a ++ b).data.toList = a.data.toList ++ b.data.toList := by rw [ByteArray.data_append, Array.toList_append]
set_option maxRecDepth 100000 in
theorem of_list {a : ByteArray} {l : List UInt8} (h : a.data.toList = l) : a = ⟨l.toArray⟩ := by
  refine ByteArray.ext (Array.ext' ?_)
  rw [h]
set_option maxRecDepth 100000 in
theorem size_list {a : ByteArray} {l : List UInt8} (h : a.data.toList = l) : a.size = l.length := by rw [Lib.size_eq, h]
set_option maxRecDepth 20000 in
set_option maxHeartbeats 2000000 in
theorem eight_any (n : Nat) (hn : n < 18446744073709551616) (w : World) :
    Calls Tryz.prog 39 #[.int .u64 (n : Int)] w fun e w' => e = .returned (.string ⟨(be8 n).toArray⟩) ∧ Below w.heap.size w w' := by
  have HN : Hid (n < 18446744073709551616) := hn
  clear hn
  go_enter Tryz.func39, Tryz.ntmps39
  go_wp2
  go_loopw [0, 3, 4] (fun c0 c3 c4 wr => ∃ (i m : Nat) (S : ByteArray), i ≤ 8 ∧ c4 = .int .i64 (i : Int) ∧ c0 = .int .u64 (m : Int) ∧ m = n / 256 ^ i ∧ c3 = .string S ∧ S.data.toList = (be8 n).drop (8 - i) ∧ Below w.heap.size w wr) (fun _ _ c4 _ => 8 - (intOf c4).toNat)
  case atStart => exact ⟨0, n, ⟨#[]⟩, by omega, rfl, rfl, by simp, rfl, by rw [List.drop_eq_nil_of_le (by rw [be8_len]; omega)], Below.refl _ _⟩
  case round =>
    obtain ⟨i, m, S, hi, rfl, rfl, hm, rfl, hS, hb⟩ := hrel
    have HM : Hid (m = n / 256 ^ i) := hm
    have HS : Hid (S.data.toList = (be8 n).drop (8 - i)) := hS
    have hSs : S.size ≤ 8 := by have h1 := size_list hS; rw [List.length_drop, be8_len] at h1; omega
    have hm64 : m < 18446744073709551616 := by rw [hm]; exact Nat.lt_of_le_of_lt (Nat.div_le_self _ _) HN.out
    clear hm hS
    by_cases h8 : i < 8
    · have h8' : (i : Int) < 8 := by omega
      obtain ⟨c, hc⟩ : ∃ c, UInt8.ofNat (m % 256) = c := ⟨_, rfl⟩
      have HC : Hid (UInt8.ofNat (m % 256) = c) := hc
      obtain ⟨v, hv⟩ : ∃ v : Int, (m : Int) % 256 = v := ⟨_, rfl⟩
      have hvc : v = (c.toNat : Int) := by rw [← hv, ← hc, toNat_ofNat_lt (by omega)]; omega
      have hw1 : IntKind.u8.wrap v = v := by rw [IntKind.wrap_u8', hvc]; have := c.toNat_lt; omega
      have hcv := conv1 wr c 5 v hvc
      have hz : ¬ 9223372036854775807 < (⟨#[c]⟩ : ByteArray).size + S.size := by have h1 : (⟨#[c]⟩ : ByteArray).size = 1 := rfl; omega
      have hz2 : ¬ 9223372036854775807 < 1 + S.size := by omega
      have hdiv : (m : Int) / 256 = ((m / 256 : Nat) : Int) := by omega
      have htm : (m : Int).tmod 256 = v := by rw [Int.tmod_eq_emod_of_nonneg (by omega)]; exact hv
      clear hc hvc hdiv hv
      go_wp2
      go_roundw
      case rel =>
        refine ⟨i + 1, m / 256, _, by omega, by go_num, by go_num, ?_, rfl, ?_, hb.alloc hb.size _⟩
        · rw [HM.out, Nat.div_div_eq_div_mul, Nat.pow_succ]
        · rw [cat_list, HS.out, show 8 - (i + 1) = 7 - i by omega, be8_drop n i h8, ← HM.out, HC.out]
          rfl
      case measure => simp [intOf]; omega
    · obtain rfl : i = 8 := by omega
      go_wp2
      go_ret
      have := of_list HS.out
      rw [this]
      exact ⟨rfl, hb⟩
set_option maxRecDepth 100000 in
theorem escL_snoc (l : List UInt8) (c : UInt8) : escL (l ++ [c]) = escL l ++ (if c = 0 then [c, 255] else [c]) := by
  induction l with
  | nil =>
    by_cases h : c = 0 <;> simp [escL, h]
  | cons d l ih =>
    rw [List.cons_append, escL, escL, ih]
    by_cases h : d = 0 <;> simp [h]
set_option maxRecDepth 100000 in
theorem ext1_list (s : ByteArray) (i : Nat) (h : i < s.size) : (s.extract i (i + 1)).data.toList = [s[i]] := by
  rw [ByteArray.data_extract, Array.toList_extract]
  have h' : i < s.data.toList.length := by rw [← Lib.size_eq]; exact h
  rw [List.extract_eq_take_drop, show i + 1 - i = 1 by omega, List.drop_eq_getElem_cons h']
  rfl
set_option maxRecDepth 100000 in
theorem take_at (s : ByteArray) (k : Nat) (h : k < s.size) : s.data.toList.take (k + 1) = s.data.toList.take k ++ [s[k]] := by
  rw [List.take_succ_eq_append_getElem (by simpa using h)]; rfl
set_option maxRecDepth 20000 in
set_option maxHeartbeats 2000000 in
theorem dtext_any (s : ByteArray) (hs : s.size ≤ 4096) (w : World) :
    Calls Tryz.prog 40 #[.string s] w fun e w' => e = .returned (.string ⟨(ktextL s).toArray⟩) ∧ w' = w := by
  go_enter Tryz.func40, Tryz.ntmps40
  go_wp2
  go_loopw [3, 4] (fun c3 c4 wr => ∃ (i : Nat) (S : ByteArray), i ≤ s.size ∧ c4 = .int .i64 (i : Int) ∧ c3 = .string S ∧ S.data.toList = escL (s.data.toList.take i) ∧ wr = w) (fun _ c4 _ => s.size - (intOf c4).toNat)
  case atStart => exact ⟨0, ⟨#[]⟩, by omega, rfl, rfl, rfl, rfl⟩
  case round =>
    obtain ⟨i, S, hi, rfl, rfl, hS, rfl⟩ := hrel
    have HS : Hid (S.data.toList = escL (s.data.toList.take i)) := hS
    have hSs : S.size ≤ 8192 := by
      have h1 := size_list hS
      have h2 := escL_len (s.data.toList.take i)
      have h3 := List.length_take_le i s.data.toList
      omega
    clear hS
    by_cases hlt : i < s.size
    · have hlt' : (i : Int) < (s.size : Int) := by omega
      have hlt2 : (i : Int) + 1 ≤ (s.size : Int) := by omega
      obtain ⟨u, hu⟩ : ∃ u, s.extract i (i + 1) = u := ⟨_, rfl⟩
      have HU : Hid (u.data.toList = [s[i]]) := by show _ = _; rw [← hu]; exact ext1_list s i hlt
      have hus : u.size = 1 := size_list HU.out
      have hz : ¬ 9223372036854775807 < S.size + u.size := by omega
      by_cases hc : s[i].toNat = 0
      · have hc' : (s[i].toNat : Int) = 0 := by omega
        have hz2 : ¬ 9223372036854775807 < (S ++ u).size + (⟨#[255]⟩ : ByteArray).size := by rw [ByteArray.size_append]; have h1 : (⟨#[255]⟩ : ByteArray).size = 1 := rfl; omega
        have hz3 : ¬ 9223372036854775807 < (S ++ u).size + 1 := by rw [ByteArray.size_append]; omega
        clear hus
        go_wp2
        go_roundw
        case rel =>
          refine ⟨i + 1, _, by omega, by go_num, rfl, ?_, by trivial⟩
          have e0 : s[i] = 0 := UInt8.toNat_inj.1 hc
          rw [cat_list, cat_list, HS.out, HU.out, take_at s i hlt, escL_snoc, if_pos e0, List.append_assoc]
          rfl
        case measure => simp [intOf]; omega
      · have hc' : ¬ (s[i].toNat : Int) = 0 := by omega
        clear hus
        go_wp2
        go_roundw
        case rel =>
          refine ⟨i + 1, _, by omega, by go_num, rfl, ?_, by trivial⟩
          rw [cat_list, HS.out, HU.out, take_at s i hlt, escL_snoc, if_neg (fun e => hc (by rw [e]; rfl))]
        case measure => simp [intOf]; omega
    · obtain rfl : s.size = i := by omega
      have hz2 : ¬ 9223372036854775807 < S.size + (⟨#[0, 1]⟩ : ByteArray).size := by have h1 : (⟨#[0, 1]⟩ : ByteArray).size = 2 := rfl; omega
      go_wp2
      go_ret
      have e : S ++ ⟨#[0, 1]⟩ = ⟨(ktextL s).toArray⟩ := by
        refine of_list ?_
        rw [cat_list, HS.out, List.take_of_length_le (by simp)]
        rfl
      rw [e]
      exact ⟨rfl, rfl⟩
end Go.Proofs.YtfemippjaokcmaaGreatDoor.V
