/- What an index of a field has of a document (rows.pair). A part of a value that may be may be as well; the pair of a document that may be, and the number of it. -/
import Derived.Test.YtniljoojoafiaaaGreatDoorXap
import Derived.Test.YtniljoojoafiaaaGreatDoorXas
import Derived.Test.YtniljoojoafiaaaGreatDoorBAny
namespace Go.Proofs.YtniljoojoafiaaaGreatDoor
open Go.RowKit Go.Shelf
attribute [local go_sem] Oper.semAt_some
def pairS (t : V.Tr) (d : Nat) : ByteArray := ⟨(V.keyT t).toArray⟩ ++ ⟨(V.be8 d).toArray⟩
def LyV (t : V.Tr) (v : Value) (W : World) : Prop := ∃ A, v = t.val A ∧ V.Lies W.heap.size W t A
theorem LyV.later {t : V.Tr} : ∀ v W W', LyV t v W → Below W.heap.size W W' → LyV t v W' := fun _ _ _ ⟨A, h1, h2⟩ hb => ⟨A, h1, V.LiesS.up (fun _ hk => Nat.lt_of_lt_of_le hk hb.size) (h2.later hb)⟩
set_option maxRecDepth 100000 in
set_option maxHeartbeats 8000000 in
theorem pair_any {Bd : Nat} {w : World} (d : Nat) (v : Int) (t : V.Tr) (x : V.Ad) (name : ByteArray) (hd : d < 18446744073709551616) (hL : V.Lies Bd w t x) (hB : Bd ≤ w.heap.size) (hs : V.slimq t) (hc : V.checkT (getT t name) = 0) (hsm : V.small (getT t name)) (hg : V.Gm w) :
    Calls Tryz.prog 30 #[.agg (rwA d v t x), .string name] w fun e w' => e = .returned (.string (pairS (getT t name) d)) ∧ Below w.heap.size w w' := by
  obtain ⟨w1, hw1⟩ : ∃ w1, w.alloc (.cells #[.int .u64 (d : Int), .int .u64 v, .int .i64 t.k, .bool t.b, .int .i64 t.n, .string t.s, .slice x.pa t.m x.pc, .slice x.na t.q x.nc] 45) = w1 := ⟨_, rfl⟩
  have hb1 : Below w.heap.size w w1 := by rw [← hw1]; exact (Below.refl _ w).alloc (Nat.le_refl _) _
  have r0 : w1.heap[w.heap.size]? = some (.cells (rwA d v t x) 45 (0, 0)) := by rw [← hw1]; exact heap_alloc_new _ _
  have HW : Hid (w.alloc (.cells #[.int .u64 (d : Int), .int .u64 v, .int .i64 t.k, .bool t.b, .int .i64 t.n, .string t.s, .slice x.pa t.m x.pc, .slice x.na t.q x.nc] 45) = w1) := hw1
  have hget : ∀ W, Below w1.heap.size w1 W → Calls Tryz.prog 55 #[.agg #[.int .i64 t.k, .bool t.b, .int .i64 t.n, .string t.s, .slice x.pa t.m x.pc, .slice x.na t.q x.nc], .string name] W fun e w' => (∃ u, e = .returned u ∧ LyV (getT t name) u w') ∧ Below W.heap.size W w' := fun W hb => by
    have hbW : Below w.heap.size w W := hb1.trans (hb.mono hb1.size)
    refine (get_any t x name (hL.later (hbW.mono hB)) (Nat.le_trans hB hbW.size) hs).mono ?_
    rintro e w' ⟨A, rfl, hA, hb'⟩
    exact ⟨⟨_, rfl, A, rfl, hA.up (fun k hk => hk.2)⟩, hb'⟩
  have hpr : ∀ W A, Below w1.heap.size w1 W → V.Lies W.heap.size W (getT t name) A → Calls Tryz.prog 54 #[(getT t name).val A, .int .u64 (d : Int)] W fun e w' => e = .returned (.string (pairS (getT t name) d)) ∧ Below W.heap.size W w' := fun W A hb hl =>
    V.pair_ok d hd hc hsm (hg.later (hb1.trans (hb.mono hb1.size)) hg.pos) hl (Nat.le_refl _)
  obtain ⟨G, hG⟩ : ∃ G, getT t name = G := ⟨_, rfl⟩
  rw [hG] at hget hpr ⊢
  obtain ⟨K, hK⟩ : ∃ K, pairS G d = K := ⟨_, rfl⟩
  rw [hK] at hpr ⊢
  clear hw1 hc hsm hL hs hG hK
  show Calls Tryz.prog 30 #[.agg #[.int .u64 (d : Int), .int .u64 v, .int .i64 t.k, .bool t.b, .int .i64 t.n, .string t.s, .slice x.pa t.m x.pc, .slice x.na t.q x.nc], .string name] w _
  go_enter Tryz.func30, Tryz.ntmps30
  go_wp2_with fail
  rw [HW.out]
  refine B.any_tail (by kernel_rfl) 7 (by exact Nat.le_of_ble_eq_true rfl) (fun i => i + 5) (B.mixR [(3, LyV G)] [.pointer (some ⟨w.heap.size, 2, none⟩), .agg #[.int .i64 t.k, .bool t.b, .int .i64 t.n, .string t.s, .slice x.pa t.m x.pc, .slice x.na t.q x.nc], .string name, undef, .pointer (some ⟨w.heap.size, 0, none⟩), .int .u64 (d : Int), .string K]) (by kernel_rfl) (by kernel_rfl) (by kernel_rfl) (by kernel_rfl) (B.mixR_later _ _ (by intro y hy; simp only [List.mem_cons, List.not_mem_nil, or_false] at hy; subst hy; exact LyV.later)) ?step ?post
  case step =>
    intro iq hiq a W hrest hb hk
    have hp2 : a.eval (.tmp 2) = .pointer (some ⟨w.heap.size, 0, none⟩) := (hrest 2 (by intro iq2 hiq2; omega)).trans rfl
    have hp1 : a.eval (.tmp 1) = .string name := (hrest 1 (by intro iq2 hiq2; omega)).trans rfl
    have fp2 := B.ev hp2
    have fp1 := B.ev hp1
    have hx2 : W.heap[w.heap.size]? = some (.cells (rwA d v t x) 45 (0, 0)) := (hb.block _ (lt_of_row r0)).trans r0
    clear hrest
    obtain rfl | rfl | rfl | rfl | rfl | rfl | rfl : iq = 0 ∨ iq = 1 ∨ iq = 2 ∨ iq = 3 ∨ iq = 4 ∨ iq = 5 ∨ iq = 6 := by omega
    · clear hiq hk
      refine ⟨_, rfl, rfl, rfl, B.wp_value (v := .pointer (some ⟨w.heap.size, 2, none⟩)) (w' := W) ?_ ⟨_, rfl, Below.refl _ _, rfl⟩⟩
      go_simp
    · have e0 : a.eval (.tmp 5) = .pointer (some ⟨w.heap.size, 2, none⟩) := hk 0 (B.mem_of (by kernel_rfl))
      clear hiq hk
      refine ⟨_, rfl, rfl, rfl, wp_load_mid 34 (.tmp 5) rfl w.heap.size 2 e0 (t.cs x) _ (rng_row hx2) Tryz.underlying34 rfl info34 ?_⟩
      exact ⟨_, rfl, Below.refl _ _, rfl⟩
    · clear hiq hk
      refine ⟨_, rfl, rfl, rfl, B.wp_value (v := .string name) (w' := W) ?_ ⟨_, rfl, Below.refl _ _, rfl⟩⟩
      go_simp
    · have e1 : a.eval (.tmp 6) = .agg #[.int .i64 t.k, .bool t.b, .int .i64 t.n, .string t.s, .slice x.pa t.m x.pc, .slice x.na t.q x.nc] := hk 1 (B.mem_of (by kernel_rfl))
      have e2 : a.eval (.tmp 7) = .string name := hk 2 (B.mem_of (by kernel_rfl))
      have f1 := B.ev e1
      have f2 := B.ev e2
      clear hiq hk
      refine ⟨_, rfl, rfl, rfl, B.wp_enter (f := 55) (args := #[.agg #[.int .i64 t.k, .bool t.b, .int .i64 t.n, .string t.s, .slice x.pa t.m x.pc, .slice x.na t.q x.nc], .string name]) ?_ ((hget W hb).mono ?_)⟩
      · go_simp
      · rintro e w2 ⟨⟨u, rfl, hu⟩, hb2⟩
        exact ⟨_, rfl, _, rfl, hb2, hu⟩
    · clear hiq hk
      refine ⟨_, rfl, rfl, rfl, B.wp_value (v := .pointer (some ⟨w.heap.size, 0, none⟩)) (w' := W) ?_ ⟨_, rfl, Below.refl _ _, rfl⟩⟩
      go_simp
    · have e4 : a.eval (.tmp 9) = .pointer (some ⟨w.heap.size, 0, none⟩) := hk 4 (B.mem_of (by kernel_rfl))
      have f4 := B.ev e4
      have hc : W.cell? ⟨w.heap.size, 0, none⟩ = some (.int .u64 (d : Int)) := cell_of_row W _ 0 _ _ _ hx2
      clear hiq hk
      refine ⟨_, rfl, rfl, rfl, B.wp_value (v := .int .u64 (d : Int)) (w' := W) ?_ ⟨_, rfl, Below.refl _ _, rfl⟩⟩
      go_simp
    · obtain ⟨A, e3, hA⟩ := show LyV G (a.eval (.tmp 8)) W from hk 3 (B.mem_of (by kernel_rfl))
      have e5 : a.eval (.tmp 10) = .int .u64 (d : Int) := hk 5 (B.mem_of (by kernel_rfl))
      have f3 := B.ev e3
      have f5 := B.ev e5
      clear hiq hk
      refine ⟨_, rfl, rfl, rfl, B.wp_enter (f := 54) (args := #[G.val A, .int .u64 (d : Int)]) ?_ ((hpr W A hb hA).mono ?_)⟩
      · go_simp
      · rintro e w2 ⟨rfl, hb2⟩
        exact ⟨_, rfl, _, rfl, hb2, rfl⟩
  case post =>
    intro V W hbW hV
    have e6 : V 6 = .string K := hV 6 (by omega)
    have hBW : Below w.heap.size w W := hb1.trans (hbW.mono hb1.size)
    clear hV hget hpr
    simp only [B.putAll, Nat.reduceAdd]
    rw [e6]
    simp only [Act.put, List.setIfInBounds_toArray, List.set_cons_zero, List.set_cons_succ]
    go_wp2
    go_ret
    exact ⟨rfl, hBW⟩
end Go.Proofs.YtniljoojoafiaaaGreatDoor
namespace Go.Proofs.YtniljoojoafiaaaGreatDoor
open Go.RowKit Go.Shelf
theorem sound_in {k : Int} {b : Bool} {n : Int} {s : ByteArray} {m : Nat} {f : Nat → V.Tr} {q : Nat} {g : Nat → ByteArray} {d : Int} (h : V.soundT (.mk k b n s m f q g) d = 0) :
    ¬ 8 < d ∧ V.formedB k b n s m q = true ∧ ¬ 32 < m ∧ ¬ (k = 6 ∧ V.namedB q m g = false) ∧ ∀ i, i < m → V.soundT (f i) (d + 1) = 0 := by
  rw [V.soundT] at h
  by_cases h1 : 8 < d
  · rw [if_pos h1] at h; omega
  rw [if_neg h1] at h
  by_cases h2 : V.formedB k b n s m q = false
  · rw [if_pos h2] at h; omega
  rw [if_neg h2] at h
  by_cases h3 : 32 < m
  · rw [if_pos h3] at h; omega
  rw [if_neg h3] at h
  by_cases h4 : k = 6 ∧ V.namedB q m g = false
  · rw [if_pos h4] at h; omega
  rw [if_neg h4] at h
  exact ⟨h1, by simpa using h2, h3, h4, V.fe_zero h⟩
theorem fe_noneK : ∀ (m : Nat) (F : Nat → Int), (∀ i, i < m → F i = 0) → V.fe m F = 0
  | 0, _, _ => rfl
  | m + 1, F, h => by
    rw [V.fe, fe_noneK m F (fun i hi => h i (by omega)), if_pos rfl, h m (by omega)]
theorem sound_less (t : V.Tr) : ∀ d, V.soundT t (d + 1) = 0 → V.soundT t d = 0 := by
  induction t with
  | no => intro d _; rfl
  | mk k b n s m f q g ih =>
    intro d h
    obtain ⟨h1, h2, h3, h4, h5⟩ := sound_in h
    rw [V.soundT, if_neg (by omega), if_neg (by simp [h2]), if_neg h3, if_neg h4]
    exact fe_noneK m _ fun i hi => ih i _ (h5 i hi)
theorem cat_part (F : Nat → List UInt8) : ∀ m i, i < m → (F i).length ≤ (V.cat m F).length
  | 0, i, h => absurd h (Nat.not_lt_zero i)
  | m + 1, i, h => by
    rw [V.cat, List.length_append]
    by_cases hi : i < m
    · have := cat_part F m i hi
      omega
    · obtain rfl : i = m := by omega
      omega
theorem part_check {b : Bool} {n : Int} {s : ByteArray} {m : Nat} {f : Nat → V.Tr} {q : Nat} {g : Nat → ByteArray} (h : V.checkT (.mk 6 b n s m f q g) = 0) (i : Nat) (hi : i < m) : V.checkT (f i) = 0 := by
  obtain ⟨h1, h2⟩ := V.check_zero h
  have h3 := sound_less _ 1 ((sound_in h1).2.2.2.2 i hi)
  have h4 : (V.bytesT (f i)).length ≤ (V.bytesT (.mk 6 b n s m f q g)).length := by
    have := cat_part (fun i => V.textL (g i) ++ V.bytesT (f i)) m i hi
    rw [V.bytesT]
    simp at this ⊢
    omega
  rw [V.checkT, if_pos h3, if_neg (by omega)]
theorem get_check (t : V.Tr) (name : ByteArray) (h : V.checkT t = 0) : V.checkT (getT t name) = 0 := by
  have hno : V.checkT noT = 0 := by
    have hf : V.formedB 0 false 0 ⟨#[]⟩ 0 0 = true := by
      unfold V.formedB
      rw [V.empty_size]
      decide
    have h1 : V.soundT noT 1 = 0 := by
      unfold noT V.leafT
      rw [V.soundT, if_neg (by omega), hf, if_neg (by simp), if_neg (by omega), if_neg (by omega)]
      rfl
    have h2 : (V.bytesT noT).length = 1 := by
      unfold noT V.leafT
      rw [V.bytesT]
      simp
    rw [V.checkT, if_pos h1, if_neg (by omega)]
  cases t with
  | no => exact hno
  | mk k b n s m f q g =>
    show V.checkT (if k = 6 ∧ 0 ≤ ixOf name q g ∧ ixOf name q g < m then f (ixOf name q g).toNat else noT) = 0
    by_cases hc : k = 6 ∧ 0 ≤ ixOf name q g ∧ ixOf name q g < m
    · rw [if_pos hc]
      obtain ⟨rfl, h0, h1⟩ := hc
      exact part_check h _ (by omega)
    · rw [if_neg hc]
      exact hno
theorem get_small (t : V.Tr) (name : ByteArray) (h : V.small t) : V.small (getT t name) := by
  have hno : V.small noT := ⟨by decide, fun i hi => absurd hi (Nat.not_lt_zero i)⟩
  cases t with
  | no => exact hno
  | mk k b n s m f q g =>
    show V.small (if k = 6 ∧ 0 ≤ ixOf name q g ∧ ixOf name q g < m then f (ixOf name q g).toNat else noT)
    by_cases hc : k = 6 ∧ 0 ≤ ixOf name q g ∧ ixOf name q g < m
    · rw [if_pos hc]
      exact h.2 _ (by omega)
    · rw [if_neg hc]
      exact hno
theorem check_slim (t : V.Tr) : ∀ d, V.soundT t d = 0 → V.slimq t := by
  induction t with
  | no => intro _ _; trivial
  | mk k b n s m f q g ih =>
    intro d h
    obtain ⟨h1, h2, h3, h4, h5⟩ := sound_in h
    refine ⟨by omega, ?_, fun i hi => ih i _ (h5 i hi)⟩
    by_cases hk : k = 6
    · by_cases hn : V.namedB q m g = false
      · exact absurd ⟨hk, hn⟩ h4
      · have hn2 : V.namedB q m g = true := by simpa using hn
        have := (of_decide_eq_true hn2).1
        omega
    · have hq : (q : Int) = 0 := by
        simp only [V.formedB, Bool.and_eq_true, Bool.or_eq_true, decide_eq_true_eq] at h2
        rcases h2.2 with h | h
        · exact absurd h hk
        · exact h
      omega
theorem number_pair {w : World} (t : V.Tr) (d : Nat) (hd : d < 18446744073709551616) (h : V.checkT t = 0) :
    Calls Tryz.prog 46 #[.string (pairS t d)] w fun e w' => e = .returned (.int .u64 (d : Int)) ∧ Below w.heap.size w w' := by
  have hs := V.key_short h
  have e : (pairS t d).data.toList = V.keyT t ++ V.be8 d := by
    unfold pairS
    rw [V.cat_list]
  refine number_any (pairS t d) (V.keyT t).length d hd ?_ (by omega) ?_
  · rw [V.size_list e, List.length_append, V.be8_len]
  · rw [e, List.drop_left]
/- The pair of a document that may be. -/
theorem pair_doc {Bd : Nat} {w : World} (d : Nat) (v : Int) (t : V.Tr) (x : V.Ad) (name : ByteArray) (hd : d < 18446744073709551616) (hL : V.Lies Bd w t x) (hB : Bd ≤ w.heap.size) (hc : V.checkT t = 0) (hsm : V.small t) (hg : V.Gm w) :
    Calls Tryz.prog 30 #[.agg (rwA d v t x), .string name] w fun e w' => e = .returned (.string (pairS (getT t name) d)) ∧ Below w.heap.size w w' :=
  pair_any d v t x name hd hL hB (check_slim t 1 (V.check_zero hc).1) (get_check t name hc) (get_small t name hsm) hg
end Go.Proofs.YtniljoojoafiaaaGreatDoor
