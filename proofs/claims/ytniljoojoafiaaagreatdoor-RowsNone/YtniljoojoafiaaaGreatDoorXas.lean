/- A value's bytes, or why it has none (Encode, Check). A sound value's key has at most nine times as many bytes as the value; a cut value's texts are short; Pair. The document's number of a pair (rows.number): the last eight bytes. -/
import Derived.Test.YtniljoojoafiaaaGreatDoorXar
import Derived.Test.YtniljoojoafiaaaGreatDoorVKput
import Derived.Test.YtniljoojoafiaaaGreatDoorVKkeyd
import Derived.Test.YtniljoojoafiaaaGreatDoorXah
namespace Go.Proofs.YtniljoojoafiaaaGreatDoor.V
open Go.RowKit
def checkT (t : Tr) : Int := if soundT t 1 = 0 then (if 1024 < (bytesT t).length then 3 else 0) else soundT t 1
def encT (t : Tr) : ByteArray := if checkT t = 0 then ⟨(bytesT t).toArray⟩ else ⟨#[]⟩
set_option maxRecDepth 100000 in
theorem bytesT_ne (t : Tr) : bytesT t ≠ [] := by cases t <;> rw [bytesT] <;> simp
set_option maxRecDepth 100000 in
set_option maxHeartbeats 4000000 in
theorem encode_any {t : Tr} {B : Nat} {w : World} {x : Ad} (hL : Lies B w t x) (hB : B ≤ w.heap.size) (hsm : small t) :
    Calls Tryz.prog 38 #[t.val x] w fun e w' => e = .returned (.tuple #[.string (encT t), .int .i64 (checkT t)]) ∧ Below w.heap.size w w' := by
  obtain ⟨C, hC⟩ : ∃ C, checkT t = C := ⟨_, rfl⟩
  obtain ⟨X, hX⟩ : ∃ X, encT t = X := ⟨_, rfl⟩
  rw [hC, hX]
  have HC : Hid (checkT t = C) := hC
  have HX : Hid (encT t = X) := hX
  clear hC hX
  obtain ⟨E, hE⟩ : ∃ E, soundT t 1 = E := ⟨_, rfl⟩
  have hso := fun (W : World) (hb : Below B w W) (hs : B ≤ W.heap.size) => sound_any t B W x 1 (by decide) (by decide) (hL.later hb) hs
  rw [hE] at hso
  have HE : Hid (soundT t 1 = E) := hE
  clear hE
  obtain ⟨bs, hbs⟩ : ∃ bs, bytesT t = bs := ⟨_, rfl⟩
  have HB : Hid (bytesT t = bs) := hbs
  have hne := bytesT_ne t
  rw [hbs] at hne
  clear hbs
  have hpt := put_all t 1
  rw [PutC, HB.out] at hpt
  have hV : t.val x = .agg #[.int .i64 t.k, .bool t.b, .int .i64 t.n, .string t.s, .slice x.pa t.m x.pc, .slice x.na t.q x.nc] := rfl
  rw [hV] at hso ⊢
  have hbel : Below w.heap.size w (w.alloc (.cells #[.int .i64 t.k, .bool t.b, .int .i64 t.n, .string t.s, .slice x.pa t.m x.pc, .slice x.na t.q x.nc] 34)) := (Below.refl _ w).alloc (Nat.le_refl _) _
  have hrow := (heap_alloc_new w (.cells #[.int .i64 t.k, .bool t.b, .int .i64 t.n, .string t.s, .slice x.pa t.m x.pc, .slice x.na t.q x.nc] 34))
  by_cases h0 : E = 0
  · subst h0
    go_enter Tryz.func38, Tryz.ntmps38
    go_wp2_with fail
    refine (hso _ (hbel.mono hB) (by simp; omega)).mono ?_
    rintro e w1 ⟨rfl, hb1⟩
    replace hrow := (hb1.block _ (by simp)).trans hrow
    replace hbel := hbel.trans (hb1.mono (by simp))
    clear hb1
    have hlt := lt_of_row hrow
    have hbl := bld_new w1
    have hb2 : Below w1.heap.size w1 (w1.alloc (.cells #[.pointer none, .slice none 0 0] 126)) := (Below.refl _ w1).alloc (Nat.le_refl _) _
    have hrow2 := (hb2.block _ hlt).trans hrow
    have c0 := cell_of_row _ _ 0 _ _ _ hrow2
    have c1 := cell_of_row _ _ 1 _ _ _ hrow2
    have c2 := cell_of_row _ _ 2 _ _ _ hrow2
    have c3 := cell_of_row _ _ 3 _ _ _ hrow2
    have c4 := cell_of_row _ _ 4 _ _ _ hrow2
    have c5 := cell_of_row _ _ 5 _ _ _ hrow2
    have hLx := hL.later ((hbel.trans (hb2.mono (by omega))).mono hB)
    have hBb : B ≤ w1.heap.size := by omega
    go_wp2_with fail
    refine (hpt HE.out hsm B _ x _ [] hLx hBb hbl (by simp)).mono ?_
    rintro e w3 ⟨rfl, ⟨l3, hbl3, haf, hl3⟩, hbb3, ht3⟩
    have hfin : Below w.heap.size w w3 := (hbel.trans (hb2.mono (by omega))).trans (hbb3.mono (by omega))
    clear c0 c1 c2 c3 c4 c5
    go_wp2_with fail
    refine (b_len _ l3 _ hbl3).mono ?_
    rintro e w3 ⟨rfl, rfl⟩
    by_cases hbig : 1024 < l3.length
    · have hbig' : (1024 : Int) < (l3.length : Int) := by omega
      have hx : 1024 < bs.length := by
        rcases Nat.lt_or_ge 1024 bs.length with k | k
        · exact k
        · have := haf.1 (by simpa using k); rw [List.nil_append] at this; rw [this] at hbig; omega
      have hc : checkT t = 3 := by unfold checkT; rw [if_pos HE.out, HB.out, if_pos hx]
      have he : encT t = ⟨#[]⟩ := by unfold encT; rw [hc]; rfl
      obtain rfl := hc.symm.trans HC.out
      obtain rfl := he.symm.trans HX.out
      go_wp2
      go_ret2
      exact ⟨rfl, hfin⟩
    · have hbig' : (l3.length : Int) ≤ 1024 := by omega
      have hx : l3 = bs := by have := haf.exact (by omega); simpa using this
      subst hx
      have hc : checkT t = 0 := by unfold checkT; rw [if_pos HE.out, HB.out, if_neg hbig]
      have he : encT t = ⟨l3.toArray⟩ := by unfold encT; rw [hc, if_pos rfl, HB.out]
      obtain rfl := hc.symm.trans HC.out
      obtain rfl := he.symm.trans HX.out
      go_wp2_with fail
      refine (b_string _ l3 _ hbl3 hne).mono ?_
      rintro e w4 ⟨rfl, hb4⟩
      go_wp2
      go_ret2
      exact ⟨rfl, hfin.trans (hb4.mono (by omega))⟩
  · have hc : checkT t = E := by unfold checkT; rw [HE.out, if_neg h0]
    have he : encT t = ⟨#[]⟩ := by unfold encT; rw [hc, if_neg h0]
    obtain rfl := hc.symm.trans HC.out
    obtain rfl := he.symm.trans HX.out
    clear hpt
    have h0' : (E != 0) = true := by simpa using h0
    go_enter Tryz.func38, Tryz.ntmps38
    go_wp2_with fail
    refine (hso _ (hbel.mono hB) (by simp; omega)).mono ?_
    rintro e w1 ⟨rfl, hb1⟩
    go_wp2
    go_ret2
    exact ⟨rfl, hbel.trans (hb1.mono (by simp))⟩
set_option maxRecDepth 100000 in
set_option maxHeartbeats 1000000 in
theorem check_any {t : Tr} {B : Nat} {w : World} {x : Ad} (hL : Lies B w t x) (hB : B ≤ w.heap.size) (hsm : small t) :
    Calls Tryz.prog 16 #[t.val x] w fun e w' => e = .returned (.int .i64 (checkT t)) ∧ Below w.heap.size w w' := by
  have hen := fun (W : World) (hb : Below B w W) (hs : B ≤ W.heap.size) => encode_any (hL.later hb) hs hsm
  have hV : t.val x = .agg #[.int .i64 t.k, .bool t.b, .int .i64 t.n, .string t.s, .slice x.pa t.m x.pc, .slice x.na t.q x.nc] := rfl
  rw [hV] at hen ⊢
  have hbel : Below w.heap.size w (w.alloc (.cells #[.int .i64 t.k, .bool t.b, .int .i64 t.n, .string t.s, .slice x.pa t.m x.pc, .slice x.na t.q x.nc] 34)) := (Below.refl _ w).alloc (Nat.le_refl _) _
  go_enter Tryz.func16, Tryz.ntmps16
  go_wp2_with fail
  refine (hen _ (hbel.mono hB) (by simp; omega)).mono ?_
  rintro e w1 ⟨rfl, hb1⟩
  go_wp2
  go_ret
  exact ⟨rfl, hbel.trans (hb1.mono (by simp))⟩
end Go.Proofs.YtniljoojoafiaaaGreatDoor.V
namespace Go.Proofs.YtniljoojoafiaaaGreatDoor.V
open Go.RowKit
set_option maxRecDepth 100000 in
theorem put_pos (n : Nat) : 1 ≤ (put n).length := by
  rcases Nat.lt_or_ge n 128 with h | h
  · rw [put_lt h]; exact Nat.le_refl _
  · rw [put_ge h]; simp
set_option maxRecDepth 100000 in
theorem cat_leK {F G : Nat → List UInt8} : ∀ {m : Nat}, (∀ i, i < m → (F i).length ≤ 9 * (G i).length) → (cat m F).length ≤ 9 * (cat m G).length
  | 0, _ => Nat.zero_le _
  | m + 1, h => by
    have h1 := cat_leK (m := m) (fun i hi => h i (by omega))
    have h2 := h m (by omega)
    show (cat m F ++ F m).length ≤ 9 * (cat m G ++ G m).length
    rw [List.length_append, List.length_append]
    omega
set_option maxRecDepth 100000 in
theorem key_len (t : Tr) : ∀ d, soundT t d = 0 → (keyT t).length + 8 ≤ 9 * (bytesT t).length := by
  induction t with
  | no => intro _ _; decide
  | mk k b n s m f q g ih =>
    intro d hS
    have hP := soundP hS
    have h0 := hP.k0
    have h6 := hP.k6
    obtain rfl | rfl | rfl | rfl | rfl | rfl | rfl : k = 0 ∨ k = 1 ∨ k = 2 ∨ k = 3 ∨ k = 4 ∨ k = 5 ∨ k = 6 := by omega
    · simp [keyT, bytesT]
    · simp [keyT, bytesT]
    · have := put_pos (zig n)
      simp [keyT, bytesT, be8_len]
      omega
    · have h1 := put_pos s.size
      have h2 := ktextL_len s
      simp [keyT, bytesT, textL]
      omega
    · have h1 := put_pos s.size
      have h2 := ktextL_len s
      simp [keyT, bytesT, textL]
      omega
    · have h1 := put_pos m
      have hc := cat_leK (m := m) (F := fun i => 1 :: keyT (f i)) (G := fun i => bytesT (f i)) (fun i hi => by
        have := ih i (d + 1) (hP.ch i hi)
        simp only [List.length_cons]; omega)
      simp [keyT, bytesT]
      omega
    · have h1 := put_pos m
      have hc := cat_leK (m := m) (F := fun i => 1 :: (ktextL (g i) ++ keyT (f i))) (G := fun i => textL (g i) ++ bytesT (f i)) (fun i hi => by
        have := ih i (d + 1) (hP.ch i hi)
        have h3 := put_pos (g i).size
        have h4 := ktextL_len (g i)
        simp only [List.length_cons, List.length_append, textL]
        have h5 := Lib.size_eq (g i)
        omega)
      simp [keyT, bytesT]
      omega
set_option maxRecDepth 100000 in
theorem small_cutK (t : Tr) : ∀ d w, small (cutT t d w) := by
  induction t with
  | no => exact fun _ _ => trivial
  | mk k b n s m f q g ih =>
    intro d w
    rw [cutT]
    refine ⟨?_, fun i _ => ih i (d - 1) 4⟩
    split
    · simp; omega
    · omega
set_option maxRecDepth 100000 in
theorem check_zero {t : Tr} (h : checkT t = 0) : soundT t 1 = 0 ∧ (bytesT t).length ≤ 1024 := by
  unfold checkT at h
  by_cases hs : soundT t 1 = 0
  · rw [if_pos hs] at h
    by_cases hb : 1024 < (bytesT t).length
    · rw [if_pos hb] at h; cases h
    · exact ⟨hs, by omega⟩
  · rw [if_neg hs] at h
    exact absurd h hs
set_option maxRecDepth 100000 in
theorem key_short {t : Tr} (h : checkT t = 0) : (keyT t).length ≤ 9216 := by
  obtain ⟨h1, h2⟩ := check_zero h
  have := key_len t 1 h1
  omega
set_option maxRecDepth 100000 in
theorem of_ok {t : Tr} {B : Nat} {w : World} {x : Ad} (h : checkT t = 0) (hsm : small t) (hg : Gm w) (hL : Lies B w t x) (hB : B ≤ w.heap.size) :
    Calls Tryz.prog 81 #[t.val x] w fun e w' => e = .returned (.string ⟨(keyT t).toArray⟩) ∧ Below w.heap.size w w' :=
  ofg_any (kputg_all t 1 (check_zero h).1 hsm) hg (by obtain ⟨m, hm⟩ := hg; exact Nat.lt_of_le_of_lt (Nat.zero_le _) (block_lt hm)) hL hB (by have := key_short h; omega)
set_option maxRecDepth 100000 in
theorem key_ok {t : Tr} {B : Nat} {w : World} {x : Ad} (h : checkT t = 0) (hsm : small t) (hL : Lies B w t x) (hB : B ≤ w.heap.size) :
    Calls Tryz.prog 98 #[t.val x] w fun e w' => e = .returned (.string ⟨(keyT t).toArray⟩) ∧ Below w.heap.size w w' :=
  dkey_all t 1 (check_zero h).1 hsm B w x hL hB (by have := key_short h; omega)
set_option maxRecDepth 100000 in
theorem Gm.pos {w : World} (h : Gm w) : 0 < w.heap.size := by obtain ⟨m, hm⟩ := h; exact Nat.lt_of_le_of_lt (Nat.zero_le _) (block_lt hm)
set_option maxRecDepth 100000 in
set_option maxHeartbeats 4000000 in
theorem pair_ok {t : Tr} {B : Nat} {w : World} {x : Ad} (n : Nat) (hn : n < 18446744073709551616) (h : checkT t = 0) (hsm : small t) (hg : Gm w) (hL : Lies B w t x) (hB : B ≤ w.heap.size) :
    Calls Tryz.prog 54 #[t.val x, .int .u64 (n : Int)] w fun e w' => e = .returned (.string (⟨(keyT t).toArray⟩ ++ ⟨(be8 n).toArray⟩)) ∧ Below w.heap.size w w' := by
  have hof := fun (W : World) (hb : Below w.heap.size w W) => of_ok (w := W) h hsm (hg.later hb hg.pos) (hL.later (hb.mono hB)) (by have := hb.size; omega)
  have hnu := fun W => number_any n hn W
  have hks := key_short h
  have hV : t.val x = .agg #[.int .i64 t.k, .bool t.b, .int .i64 t.n, .string t.s, .slice x.pa t.m x.pc, .slice x.na t.q x.nc] := rfl
  rw [hV] at hof ⊢
  obtain ⟨K, hK⟩ : ∃ K : ByteArray, (⟨(keyT t).toArray⟩ : ByteArray) = K := ⟨_, rfl⟩
  obtain ⟨E, hE⟩ : ∃ E : ByteArray, (⟨(be8 n).toArray⟩ : ByteArray) = E := ⟨_, rfl⟩
  have hz : ¬ 9223372036854775807 < K.size + E.size := by
    rw [← hK, ← hE]
    show ¬ 9223372036854775807 < (keyT t).toArray.size + (be8 n).toArray.size
    rw [List.size_toArray, List.size_toArray, be8_len]
    omega
  rw [hK] at hof ⊢
  rw [hE] at hnu ⊢
  clear hK hE hks
  have hbel : Below w.heap.size w (w.alloc (.cells #[.int .i64 t.k, .bool t.b, .int .i64 t.n, .string t.s, .slice x.pa t.m x.pc, .slice x.na t.q x.nc] 34)) := (Below.refl _ w).alloc (Nat.le_refl _) _
  go_enter Tryz.func54, Tryz.ntmps54
  go_wp2_with fail
  refine (hof _ hbel).mono ?_
  rintro e w1 ⟨rfl, hb1⟩
  go_wp2_with fail
  refine (hnu _).mono ?_
  rintro e w2 ⟨rfl, hb2⟩
  go_wp2
  go_ret
  have hz1 := hb1.size
  exact ⟨rfl, (hbel.trans (hb1.mono (by simp))).trans (hb2.mono (by simp at hz1; omega))⟩
end Go.Proofs.YtniljoojoafiaaaGreatDoor.V
namespace Go.Proofs.YtniljoojoafiaaaGreatDoor
open Go.RowKit Go.Shelf
attribute [local go_sem] Oper.semAt_some
theorem be8_at (n j : Nat) (h : j < 8) : ((V.be8 n)[j]?) = some (UInt8.ofNat (n / 256 ^ (7 - j) % 256)) := by
  simp only [V.be8, List.getElem?_map, List.getElem?_range h, Option.map_some]
  have e3 : (2 : Nat) ^ (56 - 8 * j) = 256 ^ (7 - j) := by rw [show 56 - 8 * j = 8 * (7 - j) by omega, Nat.pow_mul]
  rw [e3]
  exact congrArg some (UInt8.toNat_inj.1 (by simp [UInt8.toNat_ofNat']))
theorem div_step (n j : Nat) (h : j < 8) : n / 256 ^ (8 - j) * 256 + n / 256 ^ (7 - j) % 256 = n / 256 ^ (7 - j) := by
  rw [show 8 - j = 7 - j + 1 by omega, Nat.pow_succ, ← Nat.div_div_eq_div_mul]
  omega
set_option maxRecDepth 100000 in
theorem or64 (a c : Nat) (hc : c < 256) (ha : a * 256 + c < 18446744073709551616) :
    bits BinOp.or IntKind.u64 (IntKind.u64.wrap ((a : Int) * 256)) (IntKind.u64.wrap (c : Int)) = ((a * 256 + c : Nat) : Int) := by
  have w1 : IntKind.u64.wrap ((a : Int) * 256) = ((a * 256 : Nat) : Int) := by rw [IntKind.wrap_u64]; omega
  have w2 : IntKind.u64.wrap (c : Int) = ((c : Nat) : Int) := by rw [IntKind.wrap_u64]; omega
  rw [w1, w2]
  show IntKind.u64.wrap ((BitVec.ofInt 64 ((a * 256 : Nat) : Int) ||| BitVec.ofInt 64 ((c : Nat) : Int)).toNat : Int) = _
  rw [BitVec.ofInt_natCast, BitVec.ofInt_natCast, BitVec.toNat_or, BitVec.toNat_ofNat, BitVec.toNat_ofNat, Nat.mod_eq_of_lt (by omega), Nat.mod_eq_of_lt (by omega)]
  have e : a * 256 ||| c = a * 256 + c := by
    have := Nat.shiftLeft_add_eq_or_of_lt (i := 8) (b := c) (by omega) a
    rw [Nat.shiftLeft_eq] at this
    exact this.symm
  rw [e, IntKind.wrap_u64]
  omega
set_option maxRecDepth 100000 in
set_option maxHeartbeats 2000000 in
theorem number_any {w : World} (K : ByteArray) (m n : Nat) (hn : n < 18446744073709551616) (hm : K.size = m + 8) (hm2 : m < 1000000000) (hK : K.data.toList.drop m = V.be8 n) :
    Calls Tryz.prog 46 #[.string K] w fun e w' => e = .returned (.int .u64 (n : Int)) ∧ Below w.heap.size w w' := by
  have HK : Hid (K.data.toList.drop m = V.be8 n) := hK
  have HN : Hid (n < 18446744073709551616) := hn
  clear hK hn
  go_enter Tryz.func46, Tryz.ntmps46
  go_wp2_with fail
  go_loopw [3, 4] (fun c3 c4 wr => ∃ (j a : Nat), j ≤ 8 ∧ c4 = .int .i64 ((m + j : Nat) : Int) ∧ c3 = .int .u64 (a : Int) ∧ a = n / 256 ^ (8 - j) ∧ Below w.heap.size w wr) (fun _ c4 _ => m + 8 - (intOf c4).toNat)
  case atStart =>
    refine ⟨0, 0, by omega, by go_num, rfl, ?_, Below.refl _ _⟩
    rw [Nat.div_eq_of_lt]
    have := HN.out
    omega
  case round =>
    obtain ⟨j, a, hj, rfl, rfl, ha, hb⟩ := hrel
    have HA : Hid (a = n / 256 ^ (8 - j)) := ha
    clear ha
    by_cases h8 : j < 8
    · have h8' : ((m + j : Nat) : Int) < (K.size : Int) := by omega
      have hlt : m + j < K.size := by omega
      obtain ⟨c, hc⟩ : ∃ c : UInt8, K[m + j] = c := ⟨_, rfl⟩
      have hcn : c.toNat = n / 256 ^ (7 - j) % 256 := by
        have e := be8_at n j h8
        rw [← HK.out, List.getElem?_drop] at e
        have e2 : K.data.toList[m + j]? = some c := by
          rw [← hc, List.getElem?_eq_getElem (by simpa using hlt)]
          rfl
        rw [e2, Option.some.injEq] at e
        rw [e, UInt8.toNat_ofNat']
        omega
      have HC : Hid (c.toNat = n / 256 ^ (7 - j) % 256) := hcn
      clear hcn
      go_wp2_with fail
      have e := div_step n j h8
      rw [← HA.out, ← HC.out] at e
      have hq : n / 256 ^ (7 - j) ≤ n := Nat.div_le_self _ _
      have hn := HN.out
      have h256 := c.toNat_lt
      rw [or64 a c.toNat (by omega) (by omega)]
      refine ⟨⟨j + 1, a * 256 + c.toNat, by omega, by go_num, rfl, ?_, hb⟩, ?_⟩
      · rw [e, show 8 - (j + 1) = 7 - j by omega]
      · simp only [intOf]
        omega
    · obtain rfl : j = 8 := by omega
      go_wp2_with fail
      go_ret
      have e := HA.out
      simp at e
      rw [e]
      exact ⟨rfl, hb⟩
end Go.Proofs.YtniljoojoafiaaaGreatDoor
