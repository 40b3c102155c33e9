/- The document's Root, called. -/
import Derived.Test.YtaocbkloafhmeaaDoorRox
import Derived.Test.YtaocbkloafhmeaaDoorAny
namespace Go.Proofs.YtaocbkloafhmeaaDoor
open Go.RowKit
theorem Strs.from {w : World} {b o n c : Nat} {g : Nat → ByteArray} (h : Strs w (some ⟨b, o, none⟩) n c g) (k : Nat) (hk : k ≤ n) : Strs w (some ⟨b, o + k, none⟩) (n - k) (c - k) (fun i => g (k + i)) := by
  refine ⟨⟨by have := h.cap; omega, by have := h.cap; omega⟩, fun hn => ?_⟩
  obtain ⟨b', o', h1, h2, h3⟩ := h.at' (by omega)
  injection h1 with h1
  injection h1 with h1 h4 _
  subst h1
  subst h4
  refine ⟨b, o + k, rfl, h2, fun i hi => ?_⟩
  rw [show o + k + i = o + (k + i) by omega]
  exact h3 (k + i) (by omega)
theorem Strs.congr {w : World} {p : Option Addr} {n c : Nat} {g g' : Nat → ByteArray} (h : Strs w p n c g) (hg : ∀ i, i < n → g' i = g i) : Strs w p n c g' := by
  refine ⟨h.cap, fun hn => ?_⟩
  obtain ⟨b, o, h1, h2, h3⟩ := h.at' hn
  exact ⟨b, o, h1, h2, fun i hi => by rw [hg i hi]; exact h3 i hi⟩
theorem rootF_le (f : Nat → ByteArray) (hf : ∀ i, (f i).size ≤ 18014398509481984) : ∀ F o n, (rootF f F o n).size ≤ 18014398509481984
  | 0, _, _ => by rw [rootF, noneS, sumS_size]; omega
  | F + 1, o, n => by
    simp only [rootF]
    split
    · rw [noneS, sumS_size]; omega
    · split
      · exact hf o
      · rw [nodeS, sumS_size]; omega
set_option maxHeartbeats 2000000 in
theorem rroot_any (g : Nat → ByteArray) (hg : ∀ i, (g i).size ≤ 18014398509481984) : ∀ (F n o : Nat), n ≤ F → n ≤ 1000 → ∀ (p : Option Addr) (c : Nat) (w : World), Strs w p n c (fun i => g (o + i)) →
    Calls Tryd.prog 50 #[.slice p n c] w fun e w' => e = .returned (.string (rootR g o n)) ∧ Below w.heap.size w w'
  | 0, n, o, hF, hn, p, c, w, H => by
    obtain rfl : n = 0 := by omega
    rw [rootR_zero]
    have hr := fun w => rsum ⟨#[]⟩ (by decide) w
    go_enter Tryd.func50, Tryd.ntmps50
    go_wp2_with fail
    refine (hr _).mono ?_
    rintro e w1 ⟨rfl, hb1⟩
    go_wp2
    go_ret
    exact ⟨rfl, hb1⟩
  | F + 1, n, o, hF, hn, p, c, w, H => by
    by_cases h0 : n = 0
    · subst h0
      rw [rootR_zero]
      have hr := fun w => rsum ⟨#[]⟩ (by decide) w
      go_enter Tryd.func50, Tryd.ntmps50
      go_wp2_with fail
      refine (hr _).mono ?_
      rintro e w1 ⟨rfl, hb1⟩
      go_wp2
      go_ret
      exact ⟨rfl, hb1⟩
    · obtain ⟨b, q, rfl, hb, hc⟩ := H.at' (by omega)
      have hcap := H.cap
      have hm : maxLen = 9223372036854775807 := rfl
      by_cases h1 : n = 1
      · subst h1
        rw [rootR_one]
        have c0 := hc 0 (by omega)
        rw [Nat.add_zero] at c0
        simp only [Nat.add_zero] at c0
        go_enter Tryd.func50, Tryd.ntmps50
        go_wp2
        go_ret
        exact ⟨rfl, Below.refl _ _⟩
      · obtain ⟨k, hk⟩ : ∃ k, half n = k := ⟨_, rfl⟩
        have k1 := half_lt (n := n) (by omega)
        have k2 := half_pos n
        have HH := fun w => rhalf_any (n : Int) (by omega) (by omega) w
        rw [Int.toNat_natCast, hk] at HH
        rw [rootR_two g o (by omega)]
        rw [hk] at k1 k2 ⊢
        have i1 := rroot_any g hg F k o (by omega) (by omega) (some ⟨b, q, none⟩) c
        have i2 := rroot_any g hg F (n - k) (o + k) (by omega) (by omega) (some ⟨b, q + k, none⟩) (c - k)
        have H1 := H.less k (by omega)
        have H2 := (H.from k (by omega)).congr (g' := fun i => g (o + k + i)) (fun i _ => by show g (o + k + i) = g (o + (k + i)); rw [Nat.add_assoc])
        have z1 : (rootR g o k).size ≤ 18014398509481984 := rootF_le g hg _ _ _
        have z2 : (rootR g (o + k) (n - k)).size ≤ 18014398509481984 := rootF_le g hg _ _ _
        obtain ⟨y1, hy1⟩ : ∃ y, rootR g o k = y := ⟨_, rfl⟩
        obtain ⟨y2, hy2⟩ : ∃ y, rootR g (o + k) (n - k) = y := ⟨_, rfl⟩
        rw [hy1] at z1 i1 ⊢
        rw [hy2] at z2 i2 ⊢
        obtain ⟨r, hr⟩ : ∃ r, n - k = r := ⟨_, rfl⟩
        rw [hr] at i2 H2
        have hr' : (n : Int) - (k : Int) = (r : Int) := by omega
        have hn1 : ((n : Int) == 1) = false := beq_eq_false_iff_ne.2 (by omega)
        have hn0 : ((n : Int) == 0) = false := beq_eq_false_iff_ne.2 (by omega)
        have hkn : (k : Int) ≤ (n : Int) := by omega
        have hkc : (k : Int) ≤ (c : Int) := by omega
        have hnc : (n : Int) ≤ (c : Int) := by omega
        have HR : Hid (n - k = r) := hr
        have hck : ¬ c = k := by omega
        clear hy1 hy2 hc hk H hr
        go_enter Tryd.func50, Tryd.ntmps50
        go_wp2_with fail
        refine (HH _).mono ?_
        rintro e w1 ⟨rfl, rfl⟩
        go_wp2_with fail
        refine quiet_class (C := fun W => Below w1.heap.size w1 W) (by kernel_rfl) (by kernel_rfl) (below_drewN (Below.refl _ _) 1) ?_
        go_big_quiet_step (fail)
        go_big_quiet_step (fail)
        refine BigFrame.wpQuiet_want (by rfl) (fun K hK => q_pure (v := .slice (some ⟨b, q, none⟩) k c) (fun W => ?_) (hK _ ?_))
        · go_simp
        simp only [Act.put, List.setIfInBounds_toArray, List.set_cons_zero, List.set_cons_succ]
        refine BigFrame.wpQuiet_want (by rfl) (fun K hK => q_call (v := .string y1) (f := 50) (args := #[.slice (some ⟨b, q, none⟩) k c]) (fun W => ?_) (fun W hW => ?_) (hK _ ?_))
        · go_simp
        · refine (i1 W (H1.later hW)).mono ?_
          rintro e w' ⟨rfl, hb'⟩
          exact ⟨rfl, hW.trans (hb'.mono hW.size)⟩
        simp only [Act.put, List.setIfInBounds_toArray, List.set_cons_zero, List.set_cons_succ]
        go_big_quiet_step (fail)
        go_big_quiet_step (fail)
        refine BigFrame.wpQuiet_want (by rfl) (fun K hK => q_pure (v := .slice (some ⟨b, q + k, none⟩) r (c - k)) (fun W => ?_) (hK _ ?_))
        · rw [← HR.out]
          go_simp
        simp only [Act.put, List.setIfInBounds_toArray, List.set_cons_zero, List.set_cons_succ]
        refine BigFrame.wpQuiet_want (by rfl) (fun K hK => q_call (v := .string y2) (f := 50) (args := #[.slice (some ⟨b, q + k, none⟩) r (c - k)]) (fun W => ?_) (fun W hW => ?_) (hK _ ?_))
        · go_simp
        · refine (i2 W (H2.later hW)).mono ?_
          rintro e w' ⟨rfl, hb'⟩
          exact ⟨rfl, hW.trans (hb'.mono hW.size)⟩
        simp only [Act.put, List.setIfInBounds_toArray, List.set_cons_zero, List.set_cons_succ]
        refine BigFrame.wpQuiet_want (by rfl) (fun K hK => q_call (v := .string (nodeS y1 y2)) (f := 81) (args := #[.string y1, .string y2]) (fun W => ?_) (fun W hW => ?_) (hK _ ?_))
        · go_simp
        · refine (rnode_any y1 y2 z1 z2 W).mono ?_
          rintro e w' ⟨rfl, hb'⟩
          exact ⟨rfl, hW.trans (hb'.mono hW.size)⟩
        simp only [Act.put, List.setIfInBounds_toArray, List.set_cons_zero, List.set_cons_succ]
        go_big_quiet_step (fail)
        refine wpQuiet_nil (fun w' hW => ?_)
        go_wp2
        go_ret
        exact ⟨rfl, hW⟩
end Go.Proofs.YtaocbkloafhmeaaDoor
