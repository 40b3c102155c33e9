/- What shows a leaf (path, Path), the root of the first leaves (Root, RootAt), called. -/
import Derived.Test.YtjamahpccblkiabDoorRoo
namespace Go.Proofs.YtjamahpccblkiabDoor
open Go.RowKit
theorem pathF_len (f : Nat → ByteArray) : ∀ F m o n, (pathF f F m o n).length ≤ F
  | 0, _, _, _ => Nat.zero_le _
  | F + 1, m, o, n => by
    simp only [pathF]
    split
    · exact Nat.zero_le _
    · split
      · have := pathF_len f F m o (half n)
        simp; omega
      · have := pathF_len f F (m - half n) (o + half n) (n - half n)
        simp; omega
theorem pathR_len (f : Nat → ByteArray) (m o n : Nat) : (pathR f m o n).length ≤ n := pathF_len f n m o n
/- A part of a tree: from a up to t, at most 64 leaves, which begins at a multiple of a power of two that is not less than their number. -/
structure Prt (a t : Int) (N : Nat) : Prop where
  lo : 0 ≤ a
  le : a ≤ t
  hi : t ≤ N
  few : t - a ≤ 64
  al : ∃ j, (t - a).toNat ≤ 2 ^ j ∧ 2 ^ j ∣ a.toNat
theorem pow_over (n : Nat) : n ≤ 2 ^ n := Nat.le_of_lt Nat.lt_two_pow_self
theorem Prt.whole {t : Int} {N : Nat} (h0 : 0 ≤ t) (h1 : t ≤ N) (h2 : t ≤ 64) : Prt 0 t N :=
  ⟨by omega, h0, h1, by omega, t.toNat, by rw [Int.sub_zero]; exact pow_over _, by simp⟩
theorem Prt.halves {a t h : Int} {N : Nat} (H : Prt a t N) (h2 : 2 ≤ t - a) (hk : half (t - a).toNat = h.toNat) (h1 : 1 ≤ h) (hl : h < t - a) (h3 : t - a ≤ 2 * h) : Prt a (a + h) N ∧ Prt (a + h) t N := by
  obtain ⟨a1, a2, a3, a4, j, a5, a6⟩ := H
  obtain ⟨n, hn⟩ : ∃ n, (t - a).toNat = n := ⟨_, rfl⟩
  rw [hn] at a5 hk
  have hlog : h.toNat = 2 ^ Nat.log2 (n - 1) := by rw [← hk]; rfl
  have hdv : 2 ^ Nat.log2 (n - 1) ∣ a.toNat := Nat.dvd_trans (Nat.pow_dvd_pow 2 (by
    rcases Nat.lt_or_ge j (Nat.log2 (n - 1)) with q | q
    · have : 2 ^ (j + 1) ≤ 2 ^ Nat.log2 (n - 1) := Nat.pow_le_pow_right (by omega) q
      rw [Nat.pow_succ, ← hlog] at this
      have h9 := Nat.two_pow_pos j
      generalize 2 ^ j = z at this a5 h9
      omega
    · exact q)) a6
  have hdv2 : 2 ^ Nat.log2 (n - 1) ∣ (a + h).toNat := by
    rw [show (a + h).toNat = a.toNat + h.toNat by omega]
    exact (Nat.dvd_add_right hdv).2 (by rw [hlog]; exact Nat.dvd_refl _)
  refine ⟨⟨a1, by omega, by omega, by omega, Nat.log2 (n - 1), ?_, hdv⟩, ⟨by omega, by omega, a3, by omega, Nat.log2 (n - 1), ?_, hdv2⟩⟩
  · rw [← hlog]; clear hdv hdv2 a6; omega
  · rw [← hlog]; clear hdv hdv2 a6; omega
theorem root_prt (f : Nat → ByteArray) (S : Nat → Prop) (b N : Nat) (hN : N < 1000000) (a t : Int) (H : Prt a t N) (w : World) (hG : GL w) (hD : GD w) (hT : Tre w S b N f) :
    Calls Tryd.prog 17 #[.pointer (some ⟨b, 0, none⟩), .int .i64 a, .int .i64 t] w fun e w' => e = .returned (.string (rootR f a.toNat (t - a).toNat)) ∧ Below w.heap.size w w' := by
  obtain ⟨a1, a2, a3, a4, j, a5, a6⟩ := H
  exact root_any f S b N hN _ a t j (Nat.le_refl _) a1 a2 a3 a4 a5 a6 w hG hD hT
set_option maxHeartbeats 2000000 in
theorem path_any (f : Nat → ByteArray) (S : Nat → Prop) (b N : Nat) (hN : N < 1000000) : ∀ (F : Nat) (m a t : Int), (t - a).toNat ≤ F → a ≤ m → m < t → Prt a t N → ∀ (w : World), GL w → GD w → Tre w S b N f →
    Calls Tryd.prog 18 #[.pointer (some ⟨b, 0, none⟩), .int .i64 m, .int .i64 a, .int .i64 t] w fun e w' => ∃ v, e = .returned v ∧ w'.ownsRow w.heap.size 9 1 v (pathR f (m - a).toNat a.toNat (t - a).toNat).length (strs (pathR f (m - a).toNat a.toNat (t - a).toNat)) ∧ Below w.heap.size w w'
  | 0, m, a, t, hF, h0, h1, H, w, hG, hD, hT => by omega
  | F + 1, m, a, t, hF, h0, h1, H, w, hG, hD, hT => by
    have b0 := H.lo
    have b1 := H.hi
    have b2 := H.few
    have b3 : t ≤ 1000000 := by omega
    by_cases hone : t - a = 1
    · rw [hone]
      go_enter Tryd.func18, Tryd.ntmps18
      go_wp2
      go_ret
      exact ⟨_, rfl, World.ownsRow_nil _ _ _ _, Below.refl _ _⟩
    · obtain ⟨h, hh, k1, k2, k3, k4⟩ := half_int (t - a) (by omega)
      have HH := fun w => half_any (t - a) (by omega) (by omega) w
      rw [hh] at HH
      obtain ⟨P1, P2⟩ := H.halves (by omega) k4 k1 k2 k3
      obtain ⟨i9, hi, hz0, hz1, hz2⟩ := info_parts info9
      have hoB : (t - a == 1) = false := beq_eq_false_iff_ne.2 hone
      by_cases hm : m < a + h
      · have e : pathR f (m - a).toNat a.toNat (t - a).toNat = pathR f (m - a).toNat a.toNat (a + h - a).toNat ++ [rootR f (a + h).toNat (t - (a + h)).toNat] := by
          rw [pathR_left f _ _ (by omega) (by omega), k4, show (a + h - a).toNat = h.toNat by omega, show (a + h).toNat = a.toNat + h.toNat by omega, show (t - (a + h)).toNat = (t - a).toNat - h.toNat by omega]
        rw [e]
        have i1 := fun w hG hD hT => path_any f S b N hN F m a (a + h) (by omega) h0 hm P1 w hG hD hT
        have i2 := fun w hG hD hT => root_prt f S b N hN (a + h) t P2 w hG hD hT
        have hl := pathR_len f (m - a).toNat a.toNat (a + h - a).toNat
        have hl2 : (a + h - a).toNat ≤ 64 := by omega
        generalize pathR f (m - a).toNat a.toNat (a + h - a).toNat = l at i1 hl ⊢
        generalize rootR f (a + h).toNat (t - (a + h)).toNat = y at i2 ⊢
        have hl64 : l.length ≤ 64 := by omega
        clear e hl hl2 hh k4 P1 P2 H hF
        go_enter Tryd.func18, Tryd.ntmps18
        go_wp2_with fail
        refine (HH _).mono ?_
        rintro e w1 ⟨rfl, rfl⟩
        go_wp2_with fail
        refine (i1 _ hG hD hT).mono ?_
        rintro e w2 ⟨v, rfl, hown, hb2⟩
        go_wp2_with fail
        refine (i2 _ (hG.later hb2) (hD.later hb2) (hT.later hb2)).mono ?_
        rintro e w3 ⟨rfl, hb3⟩
        have hown3 := own_later hown hb3
        have hs2 := hb2.size
        have hs3 := hb3.size
        go_wp2_with (at_builtin; refine wpList_append_lies _ (by rfl) (.tmp 27) (.tmp 32) 22 (by rfl) w1.heap.size 9 i9 _ 1 16 Tryd.underlying22 hi hz0 hz1 hz2 (by rfl) (by decide) v l.length _ (by rfl) (hown3.alloc _) ⟨w3.heap.size, 0, none⟩ 1 1 [.string y] (by rfl) (by rfl) (World.news_of_block (heap_alloc_new w3 _)) (by simp [Value.oneCell']) (by decide) (by unfold maxLen; omega) (by omega) (by simp; omega) _ rfl ?_; intro g6 cap6 w6 hown6 hgr6 hat6 hlt6)
        go_ret
        refine ⟨_, rfl, ?_, ((below2 hb2 hb3).alloc (by omega) _).grown hgr6 (by simp; omega) (fun k hk => (hown.lt k hk).1)⟩
        rw [strs_snoc, List.length_append]
        exact hown6
      · have e : pathR f (m - a).toNat a.toNat (t - a).toNat = pathR f (m - (a + h)).toNat (a + h).toNat (t - (a + h)).toNat ++ [rootR f a.toNat (a + h - a).toNat] := by
          rw [pathR_right f _ _ (by omega) (by omega), k4, show (a + h - a).toNat = h.toNat by omega, show (a + h).toNat = a.toNat + h.toNat by omega, show (t - (a + h)).toNat = (t - a).toNat - h.toNat by omega, show (m - (a + h)).toNat = (m - a).toNat - h.toNat by omega]
        rw [e]
        have i1 := fun w hG hD hT => path_any f S b N hN F m (a + h) t (by omega) (by omega) h1 P2 w hG hD hT
        have i2 := fun w hG hD hT => root_prt f S b N hN a (a + h) P1 w hG hD hT
        have hl := pathR_len f (m - (a + h)).toNat (a + h).toNat (t - (a + h)).toNat
        have hl2 : (t - (a + h)).toNat ≤ 64 := by omega
        generalize pathR f (m - (a + h)).toNat (a + h).toNat (t - (a + h)).toNat = l at i1 hl ⊢
        generalize rootR f a.toNat (a + h - a).toNat = y at i2 ⊢
        have hl64 : l.length ≤ 64 := by omega
        clear e hl hl2 hh k4 P1 P2 H hF
        go_enter Tryd.func18, Tryd.ntmps18
        go_wp2_with fail
        refine (HH _).mono ?_
        rintro e w1 ⟨rfl, rfl⟩
        go_wp2_with fail
        refine (i1 _ hG hD hT).mono ?_
        rintro e w2 ⟨v, rfl, hown, hb2⟩
        go_wp2_with fail
        refine (i2 _ (hG.later hb2) (hD.later hb2) (hT.later hb2)).mono ?_
        rintro e w3 ⟨rfl, hb3⟩
        have hown3 := own_later hown hb3
        have hs2 := hb2.size
        have hs3 := hb3.size
        go_wp2_with (at_builtin; refine wpList_append_lies _ (by rfl) (.tmp 38) (.tmp 43) 22 (by rfl) w1.heap.size 9 i9 _ 1 16 Tryd.underlying22 hi hz0 hz1 hz2 (by rfl) (by decide) v l.length _ (by rfl) (hown3.alloc _) ⟨w3.heap.size, 0, none⟩ 1 1 [.string y] (by rfl) (by rfl) (World.news_of_block (heap_alloc_new w3 _)) (by simp [Value.oneCell']) (by decide) (by unfold maxLen; omega) (by omega) (by simp; omega) _ rfl ?_; intro g6 cap6 w6 hown6 hgr6 hat6 hlt6)
        go_ret
        refine ⟨_, rfl, ?_, ((below2 hb2 hb3).alloc (by omega) _).grown hgr6 (by simp; omega) (fun k hk => (hown.lt k hk).1)⟩
        rw [strs_snoc, List.length_append]
        exact hown6
end Go.Proofs.YtjamahpccblkiabDoor
