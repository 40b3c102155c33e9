/- A sound value's key has at most nine times as many bytes as the value; a cut value's texts are short; Pair. -/
import Derived.Test.YtaacbcnpagpdnaaDoorKput
import Derived.Test.YtaacbcnpagpdnaaDoorKkeyd
import Derived.Test.YtaacbcnpagpdnaaDoorCut
import Derived.Test.YtaacbcnpagpdnaaDoorEnc
namespace Go.Proofs.YtaacbcnpagpdnaaDoor
open Go.RowKit
theorem put_pos (n : Nat) : 1 ≤ (put n).length := by
  rcases Nat.lt_or_ge n 128 with h | h
  · rw [put_lt h]; exact Nat.le_refl _
  · rw [put_ge h]; simp
theorem cat_le {F G : Nat → List UInt8} : ∀ {m : Nat}, (∀ i, i < m → (F i).length ≤ 9 * (G i).length) → (cat m F).length ≤ 9 * (cat m G).length
  | 0, _ => Nat.zero_le _
  | m + 1, h => by
    have h1 := cat_le (m := m) (fun i hi => h i (by omega))
    have h2 := h m (by omega)
    show (cat m F ++ F m).length ≤ 9 * (cat m G ++ G m).length
    rw [List.length_append, List.length_append]
    omega
theorem key_len (t : Tr) : ∀ d, soundT t d = 0 → (keyT t).length + 8 ≤ 9 * (bytesT t).length := by
  induction t with
  | no => intro _ _; decide
  | mk k b n s m f q g ih =>
    intro d hS
    have hP := soundP hS
    have h0 := hP.k0
    have h6 := hP.k6
    obtain rfl | rfl | rfl | rfl | rfl | rfl | rfl : k = 0 ∨ k = 1 ∨ k = 2 ∨ k = 3 ∨ k = 4 ∨ k = 5 ∨ k = 6 := by omega
    · simp [keyT, bytesT]
    · simp [keyT, bytesT]
    · have := put_pos (zig n)
      simp [keyT, bytesT, be8_len]
      omega
    · have h1 := put_pos s.size
      have h2 := ktextL_len s
      simp [keyT, bytesT, textL]
      omega
    · have h1 := put_pos s.size
      have h2 := ktextL_len s
      simp [keyT, bytesT, textL]
      omega
    · have h1 := put_pos m
      have hc := cat_le (m := m) (F := fun i => 1 :: keyT (f i)) (G := fun i => bytesT (f i)) (fun i hi => by
        have := ih i (d + 1) (hP.ch i hi)
        simp only [List.length_cons]; omega)
      simp [keyT, bytesT]
      omega
    · have h1 := put_pos m
      have hc := cat_le (m := m) (F := fun i => 1 :: (ktextL (g i) ++ keyT (f i))) (G := fun i => textL (g i) ++ bytesT (f i)) (fun i hi => by
        have := ih i (d + 1) (hP.ch i hi)
        have h3 := put_pos (g i).size
        have h4 := ktextL_len (g i)
        simp only [List.length_cons, List.length_append, textL]
        have h5 := Lib.size_eq (g i)
        omega)
      simp [keyT, bytesT]
      omega
theorem small_cut (t : Tr) : ∀ d w, small (cutT t d w) := by
  induction t with
  | no => exact fun _ _ => trivial
  | mk k b n s m f q g ih =>
    intro d w
    rw [cutT]
    refine ⟨?_, fun i _ => ih i (d - 1) 4⟩
    split
    · simp; omega
    · omega
theorem check_zero {t : Tr} (h : checkT t = 0) : soundT t 1 = 0 ∧ (bytesT t).length ≤ 1024 := by
  unfold checkT at h
  by_cases hs : soundT t 1 = 0
  · rw [if_pos hs] at h
    by_cases hb : 1024 < (bytesT t).length
    · rw [if_pos hb] at h; cases h
    · exact ⟨hs, by omega⟩
  · rw [if_neg hs] at h
    exact absurd h hs
theorem key_short {t : Tr} (h : checkT t = 0) : (keyT t).length ≤ 9216 := by
  obtain ⟨h1, h2⟩ := check_zero h
  have := key_len t 1 h1
  omega
theorem of_ok {t : Tr} {B : Nat} {w : World} {x : Ad} (h : checkT t = 0) (hsm : small t) (hg : Gm w) (hL : Lies B w t x) (hB : B ≤ w.heap.size) :
    Calls Tryd.prog 13 #[t.val x] w fun e w' => e = .returned (.string ⟨(keyT t).toArray⟩) ∧ Below w.heap.size w w' :=
  ofg_any (kputg_all t 1 (check_zero h).1 hsm) hg (by obtain ⟨m, hm⟩ := hg; exact Nat.lt_of_le_of_lt (Nat.zero_le _) (block_lt hm)) hL hB (by have := key_short h; omega)
theorem key_ok {t : Tr} {B : Nat} {w : World} {x : Ad} (h : checkT t = 0) (hsm : small t) (hL : Lies B w t x) (hB : B ≤ w.heap.size) :
    Calls Tryd.prog 11 #[t.val x] w fun e w' => e = .returned (.string ⟨(keyT t).toArray⟩) ∧ Below w.heap.size w w' :=
  dkey_all t 1 (check_zero h).1 hsm B w x hL hB (by have := key_short h; omega)
theorem Gm.pos {w : World} (h : Gm w) : 0 < w.heap.size := by obtain ⟨m, hm⟩ := h; exact Nat.lt_of_le_of_lt (Nat.zero_le _) (block_lt hm)
set_option maxRecDepth 100000 in
set_option maxHeartbeats 4000000 in
theorem pair_ok {t : Tr} {B : Nat} {w : World} {x : Ad} (n : Nat) (hn : n < 18446744073709551616) (h : checkT t = 0) (hsm : small t) (hg : Gm w) (hL : Lies B w t x) (hB : B ≤ w.heap.size) :
    Calls Tryd.prog 16 #[t.val x, .int .u64 (n : Int)] w fun e w' => e = .returned (.string (⟨(keyT t).toArray⟩ ++ ⟨(be8 n).toArray⟩)) ∧ Below w.heap.size w w' := by
  have hof := fun (W : World) (hb : Below w.heap.size w W) => of_ok (w := W) h hsm (hg.later hb hg.pos) (hL.later (hb.mono hB)) (by have := hb.size; omega)
  have hnu := fun W => number_any n hn W
  have hks := key_short h
  have hV : t.val x = .agg #[.int .i64 t.k, .bool t.b, .int .i64 t.n, .string t.s, .slice x.pa t.m x.pc, .slice x.na t.q x.nc] := rfl
  rw [hV] at hof ⊢
  obtain ⟨K, hK⟩ : ∃ K : ByteArray, (⟨(keyT t).toArray⟩ : ByteArray) = K := ⟨_, rfl⟩
  obtain ⟨E, hE⟩ : ∃ E : ByteArray, (⟨(be8 n).toArray⟩ : ByteArray) = E := ⟨_, rfl⟩
  have hz : ¬ 9223372036854775807 < K.size + E.size := by
    rw [← hK, ← hE]
    show ¬ 9223372036854775807 < (keyT t).toArray.size + (be8 n).toArray.size
    rw [List.size_toArray, List.size_toArray, be8_len]
    omega
  rw [hK] at hof ⊢
  rw [hE] at hnu ⊢
  clear hK hE hks
  have hbel : Below w.heap.size w (w.alloc (.cells #[.int .i64 t.k, .bool t.b, .int .i64 t.n, .string t.s, .slice x.pa t.m x.pc, .slice x.na t.q x.nc] 25)) := (Below.refl _ w).alloc (Nat.le_refl _) _
  go_enter Tryd.func16, Tryd.ntmps16
  go_wp2_with fail
  refine (hof _ hbel).mono ?_
  rintro e w1 ⟨rfl, hb1⟩
  go_wp2_with fail
  refine (hnu _).mono ?_
  rintro e w2 ⟨rfl, hb2⟩
  go_wp2
  go_ret
  have hz1 := hb1.size
  exact ⟨rfl, (hbel.trans (hb1.mono (by simp))).trans (hb2.mono (by simp at hz1; omega))⟩
end Go.Proofs.YtaacbcnpagpdnaaDoor
