/- A sound value's key has at most nine times as many bytes as the value; a cut value's texts are short; Pair. The document's number of a pair (rows.number): the last eight bytes. What an index of a field has of a document (rows.pair). A part of a value that may be may be as well; the pair of a document that may be, and the number of it. -/
import Derived.Test.YtniljoojoafiaaaGreatDoorVKput
import Derived.Test.YtniljoojoafiaaaGreatDoorVKkeyd
import Derived.Test.YtniljoojoafiaaaGreatDoorXaq
import Derived.Test.YtniljoojoafiaaaGreatDoorXag
import Derived.Test.YtniljoojoafiaaaGreatDoorXan
import Derived.Test.YtniljoojoafiaaaGreatDoorBAny
namespace Go.Proofs.YtniljoojoafiaaaGreatDoor.V
open Go.RowKit
set_option maxRecDepth 100000 in
theorem put_pos (n : Nat) : 1 ≤ (put n).length := by
  rcases Nat.lt_or_ge n 128 with h | h
  · rw [put_lt h]; exact Nat.le_refl _
  · rw [put_ge h]; simp
set_option maxRecDepth 100000 in
theorem cat_leK {F G : Nat → List UInt8} : ∀ {m : Nat}, (∀ i, i < m → (F i).length ≤ 9 * (G i).length) → (cat m F).length ≤ 9 * (cat m G).length
  | 0, _ => Nat.zero_le _
  | m + 1, h => by
    have h1 := cat_leK (m := m) (fun i hi => h i (by omega))
    have h2 := h m (by omega)
    show (cat m F ++ F m).length ≤ 9 * (cat m G ++ G m).length
    rw [List.length_append, List.length_append]
    omega
set_option maxRecDepth 100000 in
theorem key_len (t : Tr) : ∀ d, soundT t d = 0 → (keyT t).length + 8 ≤ 9 * (bytesT t).length := by
  induction t with
  | no => intro _ _; decide
  | mk k b n s m f q g ih =>
    intro d hS
    have hP := soundP hS
    have h0 := hP.k0
    have h6 := hP.k6
    obtain rfl | rfl | rfl | rfl | rfl | rfl | rfl : k = 0 ∨ k = 1 ∨ k = 2 ∨ k = 3 ∨ k = 4 ∨ k = 5 ∨ k = 6 := by omega
    · simp [keyT, bytesT]
    · simp [keyT, bytesT]
    · have := put_pos (zig n)
      simp [keyT, bytesT, be8_len]
      omega
    · have h1 := put_pos s.size
      have h2 := ktextL_len s
      simp [keyT, bytesT, textL]
      omega
    · have h1 := put_pos s.size
      have h2 := ktextL_len s
      simp [keyT, bytesT, textL]
      omega
    · have h1 := put_pos m
      have hc := cat_leK (m := m) (F := fun i => 1 :: keyT (f i)) (G := fun i => bytesT (f i)) (fun i hi => by
        have := ih i (d + 1) (hP.ch i hi)
        simp only [List.length_cons]; omega)
      simp [keyT, bytesT]
      omega
    · have h1 := put_pos m
      have hc := cat_leK (m := m) (F := fun i => 1 :: (ktextL (g i) ++ keyT (f i))) (G := fun i => textL (g i) ++ bytesT (f i)) (fun i hi => by
        have := ih i (d + 1) (hP.ch i hi)
        have h3 := put_pos (g i).size
        have h4 := ktextL_len (g i)
        simp only [List.length_cons, List.length_append, textL]
        have h5 := Lib.size_eq (g i)
        omega)
      simp [keyT, bytesT]
      omega
set_option maxRecDepth 100000 in
theorem small_cutK (t : Tr) : ∀ d w, small (cutT t d w) := by
  induction t with
  | no => exact fun _ _ => trivial
  | mk k b n s m f q g ih =>
    intro d w
    rw [cutT]
    refine ⟨?_, fun i _ => ih i (d - 1) 4⟩
    split
    · simp; omega
    · omega
set_option maxRecDepth 100000 in
theorem check_zero {t : Tr} (h : checkT t = 0) : soundT t 1 = 0 ∧ (bytesT t).length ≤ 1024 := by
  unfold checkT at h
  by_cases hs : soundT t 1 = 0
  · rw [if_pos hs] at h
    by_cases hb : 1024 < (bytesT t).length
    · rw [if_pos hb] at h; cases h
    · exact ⟨hs, by omega⟩
  · rw [if_neg hs] at h
    exact absurd h hs
set_option maxRecDepth 100000 in
theorem key_short {t : Tr} (h : checkT t = 0) : (keyT t).length ≤ 9216 := by
  obtain ⟨h1, h2⟩ := check_zero h
  have := key_len t 1 h1
  omega
set_option maxRecDepth 100000 in
theorem of_ok {t : Tr} {B : Nat} {w : World} {x : Ad} (h : checkT t = 0) (hsm : small t) (hg : Gm w) (hL : Lies B w t x) (hB : B ≤ w.heap.size) :
    Calls Tryz.prog 81 #[t.val x] w fun e w' => e = .returned (.string ⟨(keyT t).toArray⟩) ∧ Below w.heap.size w w' :=
  ofg_any (kputg_all t 1 (check_zero h).1 hsm) hg (by obtain ⟨m, hm⟩ := hg; exact Nat.lt_of_le_of_lt (Nat.zero_le _) (block_lt hm)) hL hB (by have := key_short h; omega)
set_option maxRecDepth 100000 in
theorem key_ok {t : Tr} {B : Nat} {w : World} {x : Ad} (h : checkT t = 0) (hsm : small t) (hL : Lies B w t x) (hB : B ≤ w.heap.size) :
    Calls Tryz.prog 98 #[t.val x] w fun e w' => e = .returned (.string ⟨(keyT t).toArray⟩) ∧ Below w.heap.size w w' :=
  dkey_all t 1 (check_zero h).1 hsm B w x hL hB (by have := key_short h; omega)
set_option maxRecDepth 100000 in
theorem Gm.pos {w : World} (h : Gm w) : 0 < w.heap.size := by obtain ⟨m, hm⟩ := h; exact Nat.lt_of_le_of_lt (Nat.zero_le _) (block_lt hm)
set_option maxRecDepth 100000 in
set_option maxHeartbeats 4000000 in
theorem pair_ok {t : Tr} {B : Nat} {w : World} {x : Ad} (n : Nat) (hn : n < 18446744073709551616) (h : checkT t = 0) (hsm : small t) (hg : Gm w) (hL : Lies B w t x) (hB : B ≤ w.heap.size) :
    Calls Tryz.prog 54 #[t.val x, .int .u64 (n : Int)] w fun e w' => e = .returned (.string (⟨(keyT t).toArray⟩ ++ ⟨(be8 n).toArray⟩)) ∧ Below w.heap.size w w' := by
  have hof := fun (W : World) (hb : Below w.heap.size w W) => of_ok (w := W) h hsm (hg.later hb hg.pos) (hL.later (hb.mono hB)) (by have := hb.size; omega)
  have hnu := fun W => number_any n hn W
  have hks := key_short h
  have hV : t.val x = .agg #[.int .i64 t.k, .bool t.b, .int .i64 t.n, .string t.s, .slice x.pa t.m x.pc, .slice x.na t.q x.nc] := rfl
  rw [hV] at hof ⊢
  obtain ⟨K, hK⟩ : ∃ K : ByteArray, (⟨(keyT t).toArray⟩ : ByteArray) = K := ⟨_, rfl⟩
  obtain ⟨E, hE⟩ : ∃ E : ByteArray, (⟨(be8 n).toArray⟩ : ByteArray) = E := ⟨_, rfl⟩
  have hz : ¬ 9223372036854775807 < K.size + E.size := by
    rw [← hK, ← hE]
    show ¬ 9223372036854775807 < (keyT t).toArray.size + (be8 n).toArray.size
    rw [List.size_toArray, List.size_toArray, be8_len]
    omega
  rw [hK] at hof ⊢
  rw [hE] at hnu ⊢
  clear hK hE hks
  have hbel : Below w.heap.size w (w.alloc (.cells #[.int .i64 t.k, .bool t.b, .int .i64 t.n, .string t.s, .slice x.pa t.m x.pc, .slice x.na t.q x.nc] 34)) := (Below.refl _ w).alloc (Nat.le_refl _) _
  go_enter Tryz.func54, Tryz.ntmps54
  go_wp2_with fail
  refine (hof _ hbel).mono ?_
  rintro e w1 ⟨rfl, hb1⟩
  go_wp2_with fail
  refine (hnu _).mono ?_
  rintro e w2 ⟨rfl, hb2⟩
  go_wp2
  go_ret
  have hz1 := hb1.size
  exact ⟨rfl, (hbel.trans (hb1.mono (by simp))).trans (hb2.mono (by simp at hz1; omega))⟩
end Go.Proofs.YtniljoojoafiaaaGreatDoor.V
namespace Go.Proofs.YtniljoojoafiaaaGreatDoor
open Go.RowKit Go.Shelf
attribute [local go_sem] Oper.semAt_some
theorem be8_at (n j : Nat) (h : j < 8) : ((V.be8 n)[j]?) = some (UInt8.ofNat (n / 256 ^ (7 - j) % 256)) := by
  simp only [V.be8, List.getElem?_map, List.getElem?_range h, Option.map_some]
  have e3 : (2 : Nat) ^ (56 - 8 * j) = 256 ^ (7 - j) := by rw [show 56 - 8 * j = 8 * (7 - j) by omega, Nat.pow_mul]
  rw [e3]
  exact congrArg some (UInt8.toNat_inj.1 (by simp [UInt8.toNat_ofNat']))
theorem div_step (n j : Nat) (h : j < 8) : n / 256 ^ (8 - j) * 256 + n / 256 ^ (7 - j) % 256 = n / 256 ^ (7 - j) := by
  rw [show 8 - j = 7 - j + 1 by omega, Nat.pow_succ, ← Nat.div_div_eq_div_mul]
  omega
set_option maxRecDepth 100000 in
theorem or64 (a c : Nat) (hc : c < 256) (ha : a * 256 + c < 18446744073709551616) :
    bits BinOp.or IntKind.u64 (IntKind.u64.wrap ((a : Int) * 256)) (IntKind.u64.wrap (c : Int)) = ((a * 256 + c : Nat) : Int) := by
  have w1 : IntKind.u64.wrap ((a : Int) * 256) = ((a * 256 : Nat) : Int) := by rw [IntKind.wrap_u64]; omega
  have w2 : IntKind.u64.wrap (c : Int) = ((c : Nat) : Int) := by rw [IntKind.wrap_u64]; omega
  rw [w1, w2]
  show IntKind.u64.wrap ((BitVec.ofInt 64 ((a * 256 : Nat) : Int) ||| BitVec.ofInt 64 ((c : Nat) : Int)).toNat : Int) = _
  rw [BitVec.ofInt_natCast, BitVec.ofInt_natCast, BitVec.toNat_or, BitVec.toNat_ofNat, BitVec.toNat_ofNat, Nat.mod_eq_of_lt (by omega), Nat.mod_eq_of_lt (by omega)]
  have e : a * 256 ||| c = a * 256 + c := by
    have := Nat.shiftLeft_add_eq_or_of_lt (i := 8) (b := c) (by omega) a
    rw [Nat.shiftLeft_eq] at this
    exact this.symm
  rw [e, IntKind.wrap_u64]
  omega
set_option maxRecDepth 100000 in
set_option maxHeartbeats 2000000 in
theorem number_any {w : World} (K : ByteArray) (m n : Nat) (hn : n < 18446744073709551616) (hm : K.size = m + 8) (hm2 : m < 1000000000) (hK : K.data.toList.drop m = V.be8 n) :
    Calls Tryz.prog 46 #[.string K] w fun e w' => e = .returned (.int .u64 (n : Int)) ∧ Below w.heap.size w w' := by
  have HK : Hid (K.data.toList.drop m = V.be8 n) := hK
  have HN : Hid (n < 18446744073709551616) := hn
  clear hK hn
  go_enter Tryz.func46, Tryz.ntmps46
  go_wp2_with fail
  go_loopw [3, 4] (fun c3 c4 wr => ∃ (j a : Nat), j ≤ 8 ∧ c4 = .int .i64 ((m + j : Nat) : Int) ∧ c3 = .int .u64 (a : Int) ∧ a = n / 256 ^ (8 - j) ∧ Below w.heap.size w wr) (fun _ c4 _ => m + 8 - (intOf c4).toNat)
  case atStart =>
    refine ⟨0, 0, by omega, by go_num, rfl, ?_, Below.refl _ _⟩
    rw [Nat.div_eq_of_lt]
    have := HN.out
    omega
  case round =>
    obtain ⟨j, a, hj, rfl, rfl, ha, hb⟩ := hrel
    have HA : Hid (a = n / 256 ^ (8 - j)) := ha
    clear ha
    by_cases h8 : j < 8
    · have h8' : ((m + j : Nat) : Int) < (K.size : Int) := by omega
      have hlt : m + j < K.size := by omega
      obtain ⟨c, hc⟩ : ∃ c : UInt8, K[m + j] = c := ⟨_, rfl⟩
      have hcn : c.toNat = n / 256 ^ (7 - j) % 256 := by
        have e := be8_at n j h8
        rw [← HK.out, List.getElem?_drop] at e
        have e2 : K.data.toList[m + j]? = some c := by
          rw [← hc, List.getElem?_eq_getElem (by simpa using hlt)]
          rfl
        rw [e2, Option.some.injEq] at e
        rw [e, UInt8.toNat_ofNat']
        omega
      have HC : Hid (c.toNat = n / 256 ^ (7 - j) % 256) := hcn
      clear hcn
      go_wp2_with fail
      have e := div_step n j h8
      rw [← HA.out, ← HC.out] at e
      have hq : n / 256 ^ (7 - j) ≤ n := Nat.div_le_self _ _
      have hn := HN.out
      have h256 := c.toNat_lt
      rw [or64 a c.toNat (by omega) (by omega)]
      refine ⟨⟨j + 1, a * 256 + c.toNat, by omega, by go_num, rfl, ?_, hb⟩, ?_⟩
      · rw [e, show 8 - (j + 1) = 7 - j by omega]
      · simp only [intOf]
        omega
    · obtain rfl : j = 8 := by omega
      go_wp2_with fail
      go_ret
      have e := HA.out
      simp at e
      rw [e]
      exact ⟨rfl, hb⟩
end Go.Proofs.YtniljoojoafiaaaGreatDoor
namespace Go.Proofs.YtniljoojoafiaaaGreatDoor
open Go.RowKit Go.Shelf
attribute [local go_sem] Oper.semAt_some
def pairS (t : V.Tr) (d : Nat) : ByteArray := ⟨(V.keyT t).toArray⟩ ++ ⟨(V.be8 d).toArray⟩
def LyV (t : V.Tr) (v : Value) (W : World) : Prop := ∃ A, v = t.val A ∧ V.Lies W.heap.size W t A
theorem LyV.later {t : V.Tr} : ∀ v W W', LyV t v W → Below W.heap.size W W' → LyV t v W' := fun _ _ _ ⟨A, h1, h2⟩ hb => ⟨A, h1, V.LiesS.up (fun _ hk => Nat.lt_of_lt_of_le hk hb.size) (h2.later hb)⟩
set_option maxRecDepth 100000 in
set_option maxHeartbeats 8000000 in
theorem pair_any {Bd : Nat} {w : World} (d : Nat) (v : Int) (t : V.Tr) (x : V.Ad) (name : ByteArray) (hd : d < 18446744073709551616) (hL : V.Lies Bd w t x) (hB : Bd ≤ w.heap.size) (hs : V.slimq t) (hc : V.checkT (getT t name) = 0) (hsm : V.small (getT t name)) (hg : V.Gm w) :
    Calls Tryz.prog 30 #[.agg (rwA d v t x), .string name] w fun e w' => e = .returned (.string (pairS (getT t name) d)) ∧ Below w.heap.size w w' := by
  obtain ⟨w1, hw1⟩ : ∃ w1, w.alloc (.cells #[.int .u64 (d : Int), .int .u64 v, .int .i64 t.k, .bool t.b, .int .i64 t.n, .string t.s, .slice x.pa t.m x.pc, .slice x.na t.q x.nc] 45) = w1 := ⟨_, rfl⟩
  have hb1 : Below w.heap.size w w1 := by rw [← hw1]; exact (Below.refl _ w).alloc (Nat.le_refl _) _
  have r0 : w1.heap[w.heap.size]? = some (.cells (rwA d v t x) 45 (0, 0)) := by rw [← hw1]; exact heap_alloc_new _ _
  have HW : Hid (w.alloc (.cells #[.int .u64 (d : Int), .int .u64 v, .int .i64 t.k, .bool t.b, .int .i64 t.n, .string t.s, .slice x.pa t.m x.pc, .slice x.na t.q x.nc] 45) = w1) := hw1
  have hget : ∀ W, Below w1.heap.size w1 W → Calls Tryz.prog 55 #[.agg #[.int .i64 t.k, .bool t.b, .int .i64 t.n, .string t.s, .slice x.pa t.m x.pc, .slice x.na t.q x.nc], .string name] W fun e w' => (∃ u, e = .returned u ∧ LyV (getT t name) u w') ∧ Below W.heap.size W w' := fun W hb => by
    have hbW : Below w.heap.size w W := hb1.trans (hb.mono hb1.size)
    refine (get_any t x name (hL.later (hbW.mono hB)) (Nat.le_trans hB hbW.size) hs).mono ?_
    rintro e w' ⟨A, rfl, hA, hb'⟩
    exact ⟨⟨_, rfl, A, rfl, hA.up (fun k hk => hk.2)⟩, hb'⟩
  have hpr : ∀ W A, Below w1.heap.size w1 W → V.Lies W.heap.size W (getT t name) A → Calls Tryz.prog 54 #[(getT t name).val A, .int .u64 (d : Int)] W fun e w' => e = .returned (.string (pairS (getT t name) d)) ∧ Below W.heap.size W w' := fun W A hb hl =>
    V.pair_ok d hd hc hsm (hg.later (hb1.trans (hb.mono hb1.size)) hg.pos) hl (Nat.le_refl _)
  obtain ⟨G, hG⟩ : ∃ G, getT t name = G := ⟨_, rfl⟩
  rw [hG] at hget hpr ⊢
  obtain ⟨K, hK⟩ : ∃ K, pairS G d = K := ⟨_, rfl⟩
  rw [hK] at hpr ⊢
  clear hw1 hc hsm hL hs hG hK
  show Calls Tryz.prog 30 #[.agg #[.int .u64 (d : Int), .int .u64 v, .int .i64 t.k, .bool t.b, .int .i64 t.n, .string t.s, .slice x.pa t.m x.pc, .slice x.na t.q x.nc], .string name] w _
  go_enter Tryz.func30, Tryz.ntmps30
  go_wp2_with fail
  rw [HW.out]
  refine B.any_tail (by kernel_rfl) 7 (by exact Nat.le_of_ble_eq_true rfl) (fun i => i + 5) (B.mixR [(3, LyV G)] [.pointer (some ⟨w.heap.size, 2, none⟩), .agg #[.int .i64 t.k, .bool t.b, .int .i64 t.n, .string t.s, .slice x.pa t.m x.pc, .slice x.na t.q x.nc], .string name, undef, .pointer (some ⟨w.heap.size, 0, none⟩), .int .u64 (d : Int), .string K]) (by kernel_rfl) (by kernel_rfl) (by kernel_rfl) (by kernel_rfl) (B.mixR_later _ _ (by intro y hy; simp only [List.mem_cons, List.not_mem_nil, or_false] at hy; subst hy; exact LyV.later)) ?step ?post
  case step =>
    intro iq hiq a W hrest hb hk
    have hp2 : a.eval (.tmp 2) = .pointer (some ⟨w.heap.size, 0, none⟩) := (hrest 2 (by intro iq2 hiq2; omega)).trans rfl
    have hp1 : a.eval (.tmp 1) = .string name := (hrest 1 (by intro iq2 hiq2; omega)).trans rfl
    have fp2 := B.ev hp2
    have fp1 := B.ev hp1
    have hx2 : W.heap[w.heap.size]? = some (.cells (rwA d v t x) 45 (0, 0)) := (hb.block _ (lt_of_row r0)).trans r0
    clear hrest
    obtain rfl | rfl | rfl | rfl | rfl | rfl | rfl : iq = 0 ∨ iq = 1 ∨ iq = 2 ∨ iq = 3 ∨ iq = 4 ∨ iq = 5 ∨ iq = 6 := by omega
    · clear hiq hk
      refine ⟨_, rfl, rfl, rfl, B.wp_value (v := .pointer (some ⟨w.heap.size, 2, none⟩)) (w' := W) ?_ ⟨_, rfl, Below.refl _ _, rfl⟩⟩
      go_simp
    · have e0 : a.eval (.tmp 5) = .pointer (some ⟨w.heap.size, 2, none⟩) := hk 0 (B.mem_of (by kernel_rfl))
      clear hiq hk
      refine ⟨_, rfl, rfl, rfl, wp_load_mid 34 (.tmp 5) rfl w.heap.size 2 e0 (t.cs x) _ (rng_row hx2) Tryz.underlying34 rfl info34 ?_⟩
      exact ⟨_, rfl, Below.refl _ _, rfl⟩
    · clear hiq hk
      refine ⟨_, rfl, rfl, rfl, B.wp_value (v := .string name) (w' := W) ?_ ⟨_, rfl, Below.refl _ _, rfl⟩⟩
      go_simp
    · have e1 : a.eval (.tmp 6) = .agg #[.int .i64 t.k, .bool t.b, .int .i64 t.n, .string t.s, .slice x.pa t.m x.pc, .slice x.na t.q x.nc] := hk 1 (B.mem_of (by kernel_rfl))
      have e2 : a.eval (.tmp 7) = .string name := hk 2 (B.mem_of (by kernel_rfl))
      have f1 := B.ev e1
      have f2 := B.ev e2
      clear hiq hk
      refine ⟨_, rfl, rfl, rfl, B.wp_enter (f := 55) (args := #[.agg #[.int .i64 t.k, .bool t.b, .int .i64 t.n, .string t.s, .slice x.pa t.m x.pc, .slice x.na t.q x.nc], .string name]) ?_ ((hget W hb).mono ?_)⟩
      · go_simp
      · rintro e w2 ⟨⟨u, rfl, hu⟩, hb2⟩
        exact ⟨_, rfl, _, rfl, hb2, hu⟩
    · clear hiq hk
      refine ⟨_, rfl, rfl, rfl, B.wp_value (v := .pointer (some ⟨w.heap.size, 0, none⟩)) (w' := W) ?_ ⟨_, rfl, Below.refl _ _, rfl⟩⟩
      go_simp
    · have e4 : a.eval (.tmp 9) = .pointer (some ⟨w.heap.size, 0, none⟩) := hk 4 (B.mem_of (by kernel_rfl))
      have f4 := B.ev e4
      have hc : W.cell? ⟨w.heap.size, 0, none⟩ = some (.int .u64 (d : Int)) := cell_of_row W _ 0 _ _ _ hx2
      clear hiq hk
      refine ⟨_, rfl, rfl, rfl, B.wp_value (v := .int .u64 (d : Int)) (w' := W) ?_ ⟨_, rfl, Below.refl _ _, rfl⟩⟩
      go_simp
    · obtain ⟨A, e3, hA⟩ := show LyV G (a.eval (.tmp 8)) W from hk 3 (B.mem_of (by kernel_rfl))
      have e5 : a.eval (.tmp 10) = .int .u64 (d : Int) := hk 5 (B.mem_of (by kernel_rfl))
      have f3 := B.ev e3
      have f5 := B.ev e5
      clear hiq hk
      refine ⟨_, rfl, rfl, rfl, B.wp_enter (f := 54) (args := #[G.val A, .int .u64 (d : Int)]) ?_ ((hpr W A hb hA).mono ?_)⟩
      · go_simp
      · rintro e w2 ⟨rfl, hb2⟩
        exact ⟨_, rfl, _, rfl, hb2, rfl⟩
  case post =>
    intro V W hbW hV
    have e6 : V 6 = .string K := hV 6 (by omega)
    have hBW : Below w.heap.size w W := hb1.trans (hbW.mono hb1.size)
    clear hV hget hpr
    simp only [B.putAll, Nat.reduceAdd]
    rw [e6]
    simp only [Act.put, List.setIfInBounds_toArray, List.set_cons_zero, List.set_cons_succ]
    go_wp2
    go_ret
    exact ⟨rfl, hBW⟩
end Go.Proofs.YtniljoojoafiaaaGreatDoor
namespace Go.Proofs.YtniljoojoafiaaaGreatDoor
open Go.RowKit Go.Shelf
theorem sound_in {k : Int} {b : Bool} {n : Int} {s : ByteArray} {m : Nat} {f : Nat → V.Tr} {q : Nat} {g : Nat → ByteArray} {d : Int} (h : V.soundT (.mk k b n s m f q g) d = 0) :
    ¬ 8 < d ∧ V.formedB k b n s m q = true ∧ ¬ 32 < m ∧ ¬ (k = 6 ∧ V.namedB q m g = false) ∧ ∀ i, i < m → V.soundT (f i) (d + 1) = 0 := by
  rw [V.soundT] at h
  by_cases h1 : 8 < d
  · rw [if_pos h1] at h; omega
  rw [if_neg h1] at h
  by_cases h2 : V.formedB k b n s m q = false
  · rw [if_pos h2] at h; omega
  rw [if_neg h2] at h
  by_cases h3 : 32 < m
  · rw [if_pos h3] at h; omega
  rw [if_neg h3] at h
  by_cases h4 : k = 6 ∧ V.namedB q m g = false
  · rw [if_pos h4] at h; omega
  rw [if_neg h4] at h
  exact ⟨h1, by simpa using h2, h3, h4, V.fe_zero h⟩
theorem fe_noneK : ∀ (m : Nat) (F : Nat → Int), (∀ i, i < m → F i = 0) → V.fe m F = 0
  | 0, _, _ => rfl
  | m + 1, F, h => by
    rw [V.fe, fe_noneK m F (fun i hi => h i (by omega)), if_pos rfl, h m (by omega)]
theorem sound_less (t : V.Tr) : ∀ d, V.soundT t (d + 1) = 0 → V.soundT t d = 0 := by
  induction t with
  | no => intro d _; rfl
  | mk k b n s m f q g ih =>
    intro d h
    obtain ⟨h1, h2, h3, h4, h5⟩ := sound_in h
    rw [V.soundT, if_neg (by omega), if_neg (by simp [h2]), if_neg h3, if_neg h4]
    exact fe_noneK m _ fun i hi => ih i _ (h5 i hi)
theorem cat_part (F : Nat → List UInt8) : ∀ m i, i < m → (F i).length ≤ (V.cat m F).length
  | 0, i, h => absurd h (Nat.not_lt_zero i)
  | m + 1, i, h => by
    rw [V.cat, List.length_append]
    by_cases hi : i < m
    · have := cat_part F m i hi
      omega
    · obtain rfl : i = m := by omega
      omega
theorem part_check {b : Bool} {n : Int} {s : ByteArray} {m : Nat} {f : Nat → V.Tr} {q : Nat} {g : Nat → ByteArray} (h : V.checkT (.mk 6 b n s m f q g) = 0) (i : Nat) (hi : i < m) : V.checkT (f i) = 0 := by
  obtain ⟨h1, h2⟩ := V.check_zero h
  have h3 := sound_less _ 1 ((sound_in h1).2.2.2.2 i hi)
  have h4 : (V.bytesT (f i)).length ≤ (V.bytesT (.mk 6 b n s m f q g)).length := by
    have := cat_part (fun i => V.textL (g i) ++ V.bytesT (f i)) m i hi
    rw [V.bytesT]
    simp at this ⊢
    omega
  rw [V.checkT, if_pos h3, if_neg (by omega)]
theorem get_check (t : V.Tr) (name : ByteArray) (h : V.checkT t = 0) : V.checkT (getT t name) = 0 := by
  have hno : V.checkT noT = 0 := by
    have hf : V.formedB 0 false 0 ⟨#[]⟩ 0 0 = true := by
      unfold V.formedB
      rw [V.empty_size]
      decide
    have h1 : V.soundT noT 1 = 0 := by
      unfold noT V.leafT
      rw [V.soundT, if_neg (by omega), hf, if_neg (by simp), if_neg (by omega), if_neg (by omega)]
      rfl
    have h2 : (V.bytesT noT).length = 1 := by
      unfold noT V.leafT
      rw [V.bytesT]
      simp
    rw [V.checkT, if_pos h1, if_neg (by omega)]
  cases t with
  | no => exact hno
  | mk k b n s m f q g =>
    show V.checkT (if k = 6 ∧ 0 ≤ ixOf name q g ∧ ixOf name q g < m then f (ixOf name q g).toNat else noT) = 0
    by_cases hc : k = 6 ∧ 0 ≤ ixOf name q g ∧ ixOf name q g < m
    · rw [if_pos hc]
      obtain ⟨rfl, h0, h1⟩ := hc
      exact part_check h _ (by omega)
    · rw [if_neg hc]
      exact hno
theorem get_small (t : V.Tr) (name : ByteArray) (h : V.small t) : V.small (getT t name) := by
  have hno : V.small noT := ⟨by decide, fun i hi => absurd hi (Nat.not_lt_zero i)⟩
  cases t with
  | no => exact hno
  | mk k b n s m f q g =>
    show V.small (if k = 6 ∧ 0 ≤ ixOf name q g ∧ ixOf name q g < m then f (ixOf name q g).toNat else noT)
    by_cases hc : k = 6 ∧ 0 ≤ ixOf name q g ∧ ixOf name q g < m
    · rw [if_pos hc]
      exact h.2 _ (by omega)
    · rw [if_neg hc]
      exact hno
theorem check_slim (t : V.Tr) : ∀ d, V.soundT t d = 0 → V.slimq t := by
  induction t with
  | no => intro _ _; trivial
  | mk k b n s m f q g ih =>
    intro d h
    obtain ⟨h1, h2, h3, h4, h5⟩ := sound_in h
    refine ⟨by omega, ?_, fun i hi => ih i _ (h5 i hi)⟩
    by_cases hk : k = 6
    · by_cases hn : V.namedB q m g = false
      · exact absurd ⟨hk, hn⟩ h4
      · have hn2 : V.namedB q m g = true := by simpa using hn
        have := (of_decide_eq_true hn2).1
        omega
    · have hq : (q : Int) = 0 := by
        simp only [V.formedB, Bool.and_eq_true, Bool.or_eq_true, decide_eq_true_eq] at h2
        rcases h2.2 with h | h
        · exact absurd h hk
        · exact h
      omega
theorem number_pair {w : World} (t : V.Tr) (d : Nat) (hd : d < 18446744073709551616) (h : V.checkT t = 0) :
    Calls Tryz.prog 46 #[.string (pairS t d)] w fun e w' => e = .returned (.int .u64 (d : Int)) ∧ Below w.heap.size w w' := by
  have hs := V.key_short h
  have e : (pairS t d).data.toList = V.keyT t ++ V.be8 d := by
    unfold pairS
    rw [V.cat_list]
  refine number_any (pairS t d) (V.keyT t).length d hd ?_ (by omega) ?_
  · rw [V.size_list e, List.length_append, V.be8_len]
  · rw [e, List.drop_left]
/- The pair of a document that may be. -/
theorem pair_doc {Bd : Nat} {w : World} (d : Nat) (v : Int) (t : V.Tr) (x : V.Ad) (name : ByteArray) (hd : d < 18446744073709551616) (hL : V.Lies Bd w t x) (hB : Bd ≤ w.heap.size) (hc : V.checkT t = 0) (hsm : V.small t) (hg : V.Gm w) :
    Calls Tryz.prog 30 #[.agg (rwA d v t x), .string name] w fun e w' => e = .returned (.string (pairS (getT t name) d)) ∧ Below w.heap.size w w' :=
  pair_any d v t x name hd hL hB (check_slim t 1 (V.check_zero hc).1) (get_check t name hc) (get_small t name hsm) hg
end Go.Proofs.YtniljoojoafiaaaGreatDoor
