/- Len and the root of a part (root), called. What shows a leaf (path, Path), the root of the first leaves (Root, RootAt), called. Path, Root, RootAt, called: of a tree, and of none. -/
import Derived.Test.YtaocbkloafhmeaaDoorTz
namespace Go.Proofs.YtaocbkloafhmeaaDoor
open Go.RowKit
theorem tz_one : 1 = 2 ^ tzN 1 := by decide
theorem Tre.cells {w : World} {S : Nat → Prop} {b N : Nat} {f : Nat → ByteArray} (h : Tre w S b N f) (k : Nat) (hk : 2 ^ k ≤ N) :
    ∃ G K c g cap, k < K ∧ w.cell? ⟨b, 0, none⟩ = some (.slice (some ⟨G, 0, none⟩) K c) ∧ w.cell? ⟨G, k, none⟩ = some (.slice (some ⟨g, 0, none⟩) (N / 2 ^ k) cap) ∧ (K ≤ c ∧ c ≤ maxLen) ∧ (N / 2 ^ k ≤ cap ∧ cap ≤ maxLen) ∧ ∀ i, i < N / 2 ^ k → w.cell? ⟨g, i, none⟩ = some (.string (rootR f (i * 2 ^ k) (2 ^ k))) := by
  obtain ⟨pv, K, V, h1, h2⟩ := h.ex
  have hkK := (h2 k).2 hk
  obtain ⟨G, c, rfl, hcc, A9⟩ := h1.at9 hkK
  have hin := h1.inner k hkK
  rw [rowL_len] at hin
  obtain ⟨g, cap, e1, _, _, e4, e5⟩ := own_cell hin (Nat.div_pos hk (Nat.two_pow_pos k))
  refine ⟨G, K, c, g, cap, hkK, A9.c0, by rw [A9.c1, e1], hcc, e4, fun i hi => e5 i _ ?_⟩
  unfold strs
  rw [List.getElem?_map, rowL_get _ _ _ _ hi]
  rfl
theorem Tre.none {w : World} {S : Nat → Prop} {b : Nat} {f : Nat → ByteArray} (h : Tre w S b 0 f) : ∃ p c, w.cell? ⟨b, 0, none⟩ = some (.slice p 0 c) ∧ c ≤ maxLen := by
  obtain ⟨pv, K, V, h1, h2⟩ := h.ex
  obtain rfl : K = 0 := by
    rcases Nat.eq_zero_or_pos K with e | e
    · exact e
    · have := (h2 0).1 e
      simp at this
  obtain ⟨p, c, rfl, e⟩ := own_slice h1.outer
  refine ⟨p, c, ?_, e.2⟩
  have := cell_of_row _ _ 0 _ _ _ h1.blk
  simpa using this
set_option maxHeartbeats 1000000 in
theorem len_tree (N : Nat) (hN : N < 1000000) (f : Nat → ByteArray) (S : Nat → Prop) (b : Nat) (w : World) (hT : Tre w S b N f) :
    Calls Tryd.prog 49 #[.pointer (some ⟨b, 0, none⟩)] w fun e w' => e = .returned (.int .i64 (N : Int)) ∧ w' = w := by
  by_cases h0 : N = 0
  · subst h0
    obtain ⟨p, c, c0, hc⟩ := hT.none
    go_enter Tryd.func49, Tryd.ntmps49
    go_wp2
    go_ret
    exact ⟨rfl, rfl⟩
  · obtain ⟨G, K, c, g, cap, e1, e2, e3, e4, e5, _⟩ := hT.cells 0 (by simp; omega)
    rw [Nat.pow_zero, Nat.div_one] at e3 e5
    have hKB : ((K : Int) == 0) = false := beq_eq_false_iff_ne.2 (by omega)
    have hKi : (0 : Int) < (K : Int) := by omega
    go_enter Tryd.func49, Tryd.ntmps49
    go_wp2
    go_ret
    exact ⟨rfl, rfl⟩
set_option maxHeartbeats 2000000 in
theorem root_any (f : Nat → ByteArray) (S : Nat → Prop) (b N : Nat) (hN : N < 1000000) : ∀ (F : Nat) (a t : Int) (j : Nat), (t - a).toNat ≤ F → 0 ≤ a → a ≤ t → t ≤ N → t - a ≤ 66 → (t - a).toNat ≤ 2 ^ j → 2 ^ j ∣ a.toNat → ∀ (w : World), GL w → GD w → Tre w S b N f →
    Calls Tryd.prog 48 #[.pointer (some ⟨b, 0, none⟩), .int .i64 a, .int .i64 t] w fun e w' => e = .returned (.string (rootR f a.toNat (t - a).toNat)) ∧ Below w.heap.size w w'
  | 0, a, t, j, hF, h0, h1, h2, h3, h4, h5, w, hG, hD, hT => by
    obtain rfl : a = t := by omega
    rw [Int.sub_self]
    go_enter Tryd.func48, Tryd.ntmps48
    go_wp2_with fail
    refine (hsum ⟨#[]⟩ (by decide) _ hG).mono ?_
    rintro e w1 ⟨rfl, hb1⟩
    go_wp2
    go_ret
    exact ⟨rfl, hb1⟩
  | F + 1, a, t, j, hF, h0, h1, h2, h3, h4, h5, w, hG, hD, hT => by
    by_cases hz : a = t
    · subst hz
      rw [Int.sub_self]
      go_enter Tryd.func48, Tryd.ntmps48
      go_wp2_with fail
      refine (hsum ⟨#[]⟩ (by decide) _ hG).mono ?_
      rintro e w1 ⟨rfl, hb1⟩
      go_wp2
      go_ret
      exact ⟨rfl, hb1⟩
    · obtain ⟨n, hn⟩ : ∃ n : Nat, (t - a).toNat = n := ⟨_, rfl⟩
      have hn' : t - a = (n : Int) := by omega
      rw [hn] at h4 ⊢
      have hn1 : 1 ≤ n := by omega
      have hn64 : n ≤ 66 := by omega
      have a4 : tzN n < 7 := (idT_all ⟨n, by omega⟩ hn1).2.2.2
      have HTZ := fun w hD => tz_any n hn1 hn64 w hD
      have hnB : ((n : Int) == 0) = false := beq_eq_false_iff_ne.2 (by omega)
      by_cases hp : n = 2 ^ tzN n
      · obtain ⟨k, hk⟩ : ∃ k, tzN n = k := ⟨_, rfl⟩
        rw [hk] at hp a4 HTZ
        have hkj : 2 ^ k ∣ a.toNat := Nat.dvd_trans (Nat.pow_dvd_pow 2 (by
          rcases Nat.lt_or_ge j k with q | q
          · have : 2 ^ (j + 1) ≤ 2 ^ k := Nat.pow_le_pow_right (by omega) q
            rw [Nat.pow_succ] at this
            have := Nat.two_pow_pos j
            omega
          · exact q)) h5
        obtain ⟨G, K, c, g, cap, e1, e2, e3, e4, e5, e6⟩ := hT.cells k (by rw [← hp]; omega)
        have hpk := Nat.two_pow_pos k
        have hq1 : a.toNat / 2 ^ k * 2 ^ k = a.toNat := Nat.div_mul_cancel hkj
        have hq2 : a.toNat / 2 ^ k < N / 2 ^ k := by
          have : (a.toNat + 2 ^ k) / 2 ^ k ≤ N / 2 ^ k := Nat.div_le_div_right (by omega)
          rw [Nat.add_div_right _ hpk] at this
          omega
        have e7 := e6 _ hq2
        rw [hq1] at e7
        obtain ⟨y, hy⟩ : ∃ y, rootR f a.toNat n = y := ⟨_, rfl⟩
        have hy2 : rootR f a.toNat (2 ^ k) = y := by rw [← hp]; exact hy
        rw [hy2] at e7
        rw [hy]
        clear hy hy2 e6
        have hsh : a / 2 ^ k = ((a.toNat / 2 ^ k : Nat) : Int) := by
          rw [Int.natCast_ediv, Int.toNat_of_nonneg h0]
          simp
        obtain ⟨q, hq⟩ : ∃ q : Nat, a.toNat / 2 ^ k = q := ⟨_, rfl⟩
        obtain ⟨M, hM⟩ : ∃ M : Nat, N / 2 ^ k = M := ⟨_, rfl⟩
        rw [hq, hM] at hq2
        rw [hM] at e3 e5
        rw [hq] at e7 hsh
        have HSH : Hid (a / 2 ^ min k 64 = (q : Int)) := by unfold Hid; rw [Nat.min_eq_left (Nat.le_of_lt (Nat.lt_trans a4 (by decide)))]; exact hsh
        clear hsh
        have HPW : Hid (wrap64 (2 ^ min k 64) = (n : Int)) := by unfold Hid; rw [Nat.min_eq_left (Nat.le_of_lt (Nat.lt_trans a4 (by decide))), pow_wrap k (Nat.lt_trans a4 (by decide)), ← hp]
        have HP : Hid (n = 2 ^ k) := hp
        clear hq1 hq hM hp hk hkj h5 hn h4 hpk
        have hki : (k : Int) < (K : Int) := by omega
        have hqi : (q : Int) < (M : Int) := by omega
        have hq0 : (0 : Int) ≤ (q : Int) := by omega
        have hk0 : (0 : Int) ≤ (k : Int) := by omega
        have hB2 : (t - a == 0) = false := beq_eq_false_iff_ne.2 (by omega)
        have ht3 : t ≤ 1000000 := by omega
        have hn0 : (0 : Int) < (n : Int) := by omega
        have hn3 : (n : Int) ≤ 66 := by omega
        have ha3 : a ≤ 1000000 := by omega
        clear hF h1 h2 h3 hz a4 hT
        go_enter Tryd.func48, Tryd.ntmps48
        go_wp2_with fail
        refine (HTZ _ hD).mono ?_
        rintro e w1 ⟨rfl, rfl⟩
        have hpw := HPW.out
        go_wp2_with fail
        have hsh := HSH.out
        go_quiet (fail)
        clear hsh hpw
        go_wp2
        go_ret
        exact ⟨rfl, below_drewN (Below.refl _ _) _⟩
      · have hn2 : 2 ≤ n := by
          rcases Nat.lt_or_ge n 2 with q | q
          · obtain rfl : n = 1 := by omega
            exact absurd tz_one hp
          · exact q
        obtain ⟨h, hh, k1, k2, k3, k4⟩ := half_int (t - a) (by omega)
        have HH := fun w => half_any (t - a) (by omega) (by omega) w
        rw [hh] at HH
        have hr : rootR f a.toNat n = nodeS (rootR f a.toNat (a + h - a).toNat) (rootR f (a + h).toNat (t - (a + h)).toNat) := by
          rw [rootR_two f a.toNat hn2, ← hn, k4, show (a + h - a).toNat = h.toNat by omega, show (a + h).toNat = a.toNat + h.toNat by omega, show (t - (a + h)).toNat = (t - a).toNat - h.toNat by omega]
        rw [hr]
        have hlog : h.toNat = 2 ^ Nat.log2 (n - 1) := by rw [← k4, hn]; rfl
        have hdv : 2 ^ Nat.log2 (n - 1) ∣ a.toNat := Nat.dvd_trans (Nat.pow_dvd_pow 2 (by
          rcases Nat.lt_or_ge j (Nat.log2 (n - 1)) with q | q
          · have : 2 ^ (j + 1) ≤ 2 ^ Nat.log2 (n - 1) := Nat.pow_le_pow_right (by omega) q
            rw [Nat.pow_succ, ← hlog] at this
            have h9 := Nat.two_pow_pos j
            generalize 2 ^ j = z at this h4 h9
            omega
          · exact q)) h5
        have i1 := fun w hG hD hT => root_any f S b N hN F a (a + h) (Nat.log2 (n - 1)) (by omega) h0 (by omega) (by omega) (by omega) (by rw [← hlog]; omega) hdv w hG hD hT
        have i2 := fun w hG hD hT => root_any f S b N hN F (a + h) t (Nat.log2 (n - 1)) (by omega) (by omega) (by omega) h2 (by omega) (by rw [← hlog]; omega) (by
          rw [show (a + h).toNat = a.toNat + h.toNat by omega]
          exact (Nat.dvd_add_right hdv).2 (by rw [hlog]; exact Nat.dvd_refl _)) w hG hD hT
        have z1 : (rootR f a.toNat (a + h - a).toNat).size ≤ 18014398509481984 := by rw [rootR_size f _ _ (fun i _ _ => hT.sz i (by omega))]; omega
        have z2 : (rootR f (a + h).toNat (t - (a + h)).toNat).size ≤ 18014398509481984 := by rw [rootR_size f _ _ (fun i _ _ => hT.sz i (by omega))]; omega
        obtain ⟨y1, hy1⟩ : ∃ y, rootR f a.toNat (a + h - a).toNat = y := ⟨_, rfl⟩
        obtain ⟨y2, hy2⟩ : ∃ y, rootR f (a + h).toNat (t - (a + h)).toNat = y := ⟨_, rfl⟩
        rw [hy1] at z1 ⊢
        rw [hy2] at z2 ⊢
        simp only [hy1] at i1
        simp only [hy2] at i2
        have hneq : ((n : Int) == wrap64 (2 ^ tzN n)) = false := beq_eq_false_iff_ne.2 (by
          rw [pow_wrap (tzN n) (Nat.lt_trans a4 (by decide))]
          exact fun e => hp (Int.ofNat_inj.1 e))
        obtain ⟨k, hk⟩ : ∃ k, tzN n = k := ⟨_, rfl⟩
        rw [hk] at hneq HTZ a4
        have HNE : Hid (((n : Int) == wrap64 (2 ^ k)) = false) := hneq
        have hB2 : (t - a == 0) = false := beq_eq_false_iff_ne.2 (by omega)
        have ht3 : t ≤ 1000000 := by omega
        have hn0 : (0 : Int) < (n : Int) := by omega
        have hn3 : (n : Int) ≤ 66 := by omega
        have hk0 : (0 : Int) ≤ (k : Int) := by omega
        rw [hn'] at HH
        clear hneq hy1 hy2 hr hlog hdv hk hp h5 h4 hn hh k4 hF hz hB2
        go_enter Tryd.func48, Tryd.ntmps48
        go_wp2_with fail
        refine (HTZ _ hD).mono ?_
        rintro e w1 ⟨rfl, rfl⟩
        have hne := HNE.out
        go_wp2_with fail
        refine (HH _).mono ?_
        rintro e w2 ⟨rfl, rfl⟩
        go_wp2_with fail
        refine (i1 _ hG hD hT).mono ?_
        rintro e w3 ⟨rfl, hb3⟩
        go_wp2_with fail
        refine (i2 _ (hG.later hb3) (hD.later hb3) (hT.later hb3)).mono ?_
        rintro e w4 ⟨rfl, hb4⟩
        go_wp2_with fail
        refine (node_any y1 y2 z1 z2 _ (hG.later (below2 hb3 hb4))).mono ?_
        rintro e w5 ⟨rfl, hb5⟩
        go_wp2
        go_ret
        exact ⟨rfl, below2 (below2 hb3 hb4) hb5⟩
end Go.Proofs.YtaocbkloafhmeaaDoor
namespace Go.Proofs.YtaocbkloafhmeaaDoor
open Go.RowKit
theorem pathF_len (f : Nat → ByteArray) : ∀ F m o n, (pathF f F m o n).length ≤ F
  | 0, _, _, _ => Nat.zero_le _
  | F + 1, m, o, n => by
    simp only [pathF]
    split
    · exact Nat.zero_le _
    · split
      · have := pathF_len f F m o (half n)
        simp; omega
      · have := pathF_len f F (m - half n) (o + half n) (n - half n)
        simp; omega
theorem pathR_len (f : Nat → ByteArray) (m o n : Nat) : (pathR f m o n).length ≤ n := pathF_len f n m o n
/- A part of a tree: from a up to t, at most 66 leaves, which begins at a multiple of a power of two that is not less than their number. -/
structure Prt (a t : Int) (N : Nat) : Prop where
  lo : 0 ≤ a
  le : a ≤ t
  hi : t ≤ N
  few : t - a ≤ 66
  al : ∃ j, (t - a).toNat ≤ 2 ^ j ∧ 2 ^ j ∣ a.toNat
theorem pow_over (n : Nat) : n ≤ 2 ^ n := Nat.le_of_lt Nat.lt_two_pow_self
theorem Prt.whole {t : Int} {N : Nat} (h0 : 0 ≤ t) (h1 : t ≤ N) (h2 : t ≤ 66) : Prt 0 t N :=
  ⟨by omega, h0, h1, by omega, t.toNat, by rw [Int.sub_zero]; exact pow_over _, by simp⟩
theorem Prt.halves {a t h : Int} {N : Nat} (H : Prt a t N) (h2 : 2 ≤ t - a) (hk : half (t - a).toNat = h.toNat) (h1 : 1 ≤ h) (hl : h < t - a) (h3 : t - a ≤ 2 * h) : Prt a (a + h) N ∧ Prt (a + h) t N := by
  obtain ⟨a1, a2, a3, a4, j, a5, a6⟩ := H
  obtain ⟨n, hn⟩ : ∃ n, (t - a).toNat = n := ⟨_, rfl⟩
  rw [hn] at a5 hk
  have hlog : h.toNat = 2 ^ Nat.log2 (n - 1) := by rw [← hk]; rfl
  have hdv : 2 ^ Nat.log2 (n - 1) ∣ a.toNat := Nat.dvd_trans (Nat.pow_dvd_pow 2 (by
    rcases Nat.lt_or_ge j (Nat.log2 (n - 1)) with q | q
    · have : 2 ^ (j + 1) ≤ 2 ^ Nat.log2 (n - 1) := Nat.pow_le_pow_right (by omega) q
      rw [Nat.pow_succ, ← hlog] at this
      have h9 := Nat.two_pow_pos j
      generalize 2 ^ j = z at this a5 h9
      omega
    · exact q)) a6
  have hdv2 : 2 ^ Nat.log2 (n - 1) ∣ (a + h).toNat := by
    rw [show (a + h).toNat = a.toNat + h.toNat by omega]
    exact (Nat.dvd_add_right hdv).2 (by rw [hlog]; exact Nat.dvd_refl _)
  refine ⟨⟨a1, by omega, by omega, by omega, Nat.log2 (n - 1), ?_, hdv⟩, ⟨by omega, by omega, a3, by omega, Nat.log2 (n - 1), ?_, hdv2⟩⟩
  · rw [← hlog]; clear hdv hdv2 a6; omega
  · rw [← hlog]; clear hdv hdv2 a6; omega
theorem root_prt (f : Nat → ByteArray) (S : Nat → Prop) (b N : Nat) (hN : N < 1000000) (a t : Int) (H : Prt a t N) (w : World) (hG : GL w) (hD : GD w) (hT : Tre w S b N f) :
    Calls Tryd.prog 48 #[.pointer (some ⟨b, 0, none⟩), .int .i64 a, .int .i64 t] w fun e w' => e = .returned (.string (rootR f a.toNat (t - a).toNat)) ∧ Below w.heap.size w w' := by
  obtain ⟨a1, a2, a3, a4, j, a5, a6⟩ := H
  exact root_any f S b N hN _ a t j (Nat.le_refl _) a1 a2 a3 a4 a5 a6 w hG hD hT
end Go.Proofs.YtaocbkloafhmeaaDoor
namespace Go.Proofs.YtaocbkloafhmeaaDoor
open Go.RowKit
set_option maxHeartbeats 2000000 in
theorem Root_any (f : Nat → ByteArray) (S : Nat → Prop) (b N : Nat) (hN : N ≤ 66) (w : World) (hG : GL w) (hD : GD w) (hT : Tre w S b N f) :
    Calls Tryd.prog 23 #[.pointer (some ⟨b, 0, none⟩)] w fun e w' => e = .returned (.string (rootR f 0 N)) ∧ Below w.heap.size w w' := by
  have hp := root_prt f S b N (by omega) 0 N (Prt.whole (by omega) (Int.le_refl _) (by omega)) w hG hD hT
  rw [Int.sub_zero] at hp
  have e0 : (0 : Int).toNat = 0 := rfl
  rw [e0, Int.toNat_natCast] at hp
  have hL := len_tree N (by omega) f S b w hT
  generalize rootR f 0 N = y at hp ⊢
  go_enter Tryd.func23, Tryd.ntmps23
  go_wp2_with fail
  refine hL.mono ?_
  rintro e w1 ⟨rfl, rfl⟩
  go_wp2_with fail
  refine hp.mono ?_
  rintro e w2 ⟨rfl, hb2⟩
  go_wp2
  go_ret
  exact ⟨rfl, hb2⟩
theorem new_tre (w : World) (hw : 3 ≤ w.heap.size) (f : Nat → ByteArray) : Tre (w.alloc (.cells #[.slice none 0 0] 112)) (fun j => j = w.heap.size) w.heap.size 0 f := by
  refine ⟨⟨.slice none 0 0, 0, fun _ => .slice none 0 0, ⟨heap_alloc_new w _, ⟨rfl, Or.inl ⟨rfl, rfl⟩⟩, fun k hk => (by omega), rfl, fun g hg => (by cases hg), fun k hk => (by omega), fun h => (by cases h), fun k hk => (by omega), fun k hk => (by omega), fun j k hj => (by omega)⟩, fun j => ?_⟩, fun j hj => (by omega), fun j hj => (by simp; omega), fun i hi => (by omega)⟩
  have := Nat.two_pow_pos j
  omega
end Go.Proofs.YtaocbkloafhmeaaDoor
