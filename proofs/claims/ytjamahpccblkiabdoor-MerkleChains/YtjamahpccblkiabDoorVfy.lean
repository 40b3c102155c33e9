/- Whether a way shows a leaf (rootBy, Verify), called: as the plain function rb has it. -/
import Derived.Test.YtjamahpccblkiabDoorVfa
namespace Go.Proofs.YtjamahpccblkiabDoor
open Go.RowKit
theorem sumS_size (s : ByteArray) : (sumS s).size = 32 := by
  unfold sumS sumB digB
  rw [Lib.size_eq]
  exact digW_len _ 8
theorem rb_size (leaf : ByteArray) (hl : leaf.size ≤ 400) : ∀ (r : List ByteArray) (m n : Nat), (rb leaf m n r).1.size ≤ 400
  | [], m, n => by
    simp only [rb]
    split
    · exact hl
    · exact Nat.zero_le _
  | x :: r, m, n => by
    simp only [rb]
    split
    · exact hl
    · split
      · split
        · rw [nodeS, sumS_size]; omega
        · rw [nodeS, sumS_size]; omega
      · exact Nat.zero_le _
theorem half_int (n : Int) (h : 2 ≤ n) : ∃ k : Int, ((half n.toNat : Nat) : Int) = k ∧ 1 ≤ k ∧ k < n ∧ n ≤ 2 * k ∧ half n.toNat = k.toNat := by
  have a := half_lt (n := n.toNat) (by omega)
  have b := half_pos n.toNat
  have c := half_twice (n := n.toNat) (by omega)
  exact ⟨_, rfl, by omega, by omega, by omega, by omega⟩
set_option maxHeartbeats 2000000 in
theorem rby_any (leaf : ByteArray) (hl : leaf.size ≤ 400) (g : Nat → ByteArray) : ∀ (n : Nat) (m N : Int), 0 ≤ m → m < N → N ≤ 2147483648 → ∀ (p : Option Addr) (c : Nat) (w : World), Strs w p n c g → GL w →
    Calls Tryd.prog 21 #[.string leaf, .int .i64 m, .int .i64 N, .slice p n c] w fun e w' => e = .returned (.tuple #[.string (rb leaf m.toNat N.toNat (revL g n)).1, .bool (rb leaf m.toNat N.toNat (revL g n)).2]) ∧ Below w.heap.size w w'
  | 0, m, N, h0, h1, h2, p, c, w, H, hG => by
    by_cases hN : N = 1
    · subst hN
      go_enter Tryd.func21, Tryd.ntmps21
      go_wp2
      go_ret2
      exact ⟨rfl, Below.refl _ _⟩
    · have e : rb leaf m.toNat N.toNat (revL g 0) = (⟨#[]⟩, false) := by
        show (if N.toNat = 1 then (leaf, true) else (⟨#[]⟩, false)) = _
        rw [if_neg (by omega)]
      rw [e]
      clear e
      go_enter Tryd.func21, Tryd.ntmps21
      go_wp2_with fail
      refine (high_none p c _).mono ?_
      rintro e w' ⟨rfl, rfl⟩
      go_wp2
      go_ret2
      exact ⟨rfl, Below.refl _ _⟩
  | n + 1, m, N, h0, h1, h2, p, c, w, H, hG => by
    have hcap := H.cap
    have hm : maxLen = 9223372036854775807 := rfl
    by_cases hN : N = 1
    · subst hN
      go_enter Tryd.func21, Tryd.ntmps21
      go_wp2
      go_ret2
      exact ⟨rfl, Below.refl _ _⟩
    · by_cases hx : (g n).size = 32
      · obtain ⟨k, hk, k1, k2, k3, k4⟩ := half_int N (by omega)
        have HH := fun w => half_any N (by omega) h2 w
        rw [hk] at HH
        by_cases hmk : m < k
        · have e : rb leaf m.toNat N.toNat (revL g (n + 1)) = (nodeS (rb leaf m.toNat k.toNat (revL g n)).1 (g n), (rb leaf m.toNat k.toNat (revL g n)).2) := by
            show (if N.toNat = 1 then (leaf, false) else _) = _
            rw [if_neg (by omega), if_pos hx, k4, if_pos (by omega)]
          rw [e]
          have ih := fun w HS HGG => rby_any leaf hl g n m k h0 hmk (by omega) p c w HS HGG
          have hr := rb_size leaf hl (revL g n) m.toNat k.toNat
          generalize rb leaf m.toNat k.toNat (revL g n) = R at ih hr ⊢
          obtain ⟨r, ok⟩ := R
          simp only at ih hr ⊢
          have Hs := H.less n (by omega)
          have hgo := fun w H => high_ok p n c g w H hx
          generalize g n = top at hx hgo ⊢
          clear e
          go_enter Tryd.func21, Tryd.ntmps21
          go_wp2_with fail
          refine (hgo _ H).mono ?_
          rintro e w1 ⟨rfl, hb1⟩
          go_wp2_with fail
          refine (HH _).mono ?_
          rintro e w2 ⟨rfl, rfl⟩
          go_wp2_with fail
          refine (ih _ (Hs.later hb1) (hG.later hb1)).mono ?_
          rintro e w3 ⟨rfl, hb3⟩
          go_wp2_with fail
          refine (node_any r top hr (by omega) _ (hG.later (below2 hb1 hb3))).mono ?_
          rintro e w4 ⟨rfl, hb4⟩
          go_wp2
          go_ret2
          exact ⟨rfl, below2 (below2 hb1 hb3) hb4⟩
        · have e : rb leaf m.toNat N.toNat (revL g (n + 1)) = (nodeS (g n) (rb leaf (m - k).toNat (N - k).toNat (revL g n)).1, (rb leaf (m - k).toNat (N - k).toNat (revL g n)).2) := by
            show (if N.toNat = 1 then (leaf, false) else _) = _
            rw [if_neg (by omega), if_pos hx, k4, if_neg (by omega), show m.toNat - k.toNat = (m - k).toNat by omega, show N.toNat - k.toNat = (N - k).toNat by omega]
          rw [e]
          have ih := fun w HS HGG => rby_any leaf hl g n (m - k) (N - k) (by omega) (by omega) (by omega) p c w HS HGG
          have hr := rb_size leaf hl (revL g n) (m - k).toNat (N - k).toNat
          generalize rb leaf (m - k).toNat (N - k).toNat (revL g n) = R at ih hr ⊢
          obtain ⟨r, ok⟩ := R
          simp only at ih hr ⊢
          have Hs := H.less n (by omega)
          have hgo := fun w H => high_ok p n c g w H hx
          generalize g n = top at hx hgo ⊢
          clear e
          go_enter Tryd.func21, Tryd.ntmps21
          go_wp2_with fail
          refine (hgo _ H).mono ?_
          rintro e w1 ⟨rfl, hb1⟩
          go_wp2_with fail
          refine (HH _).mono ?_
          rintro e w2 ⟨rfl, rfl⟩
          go_wp2_with fail
          refine (ih _ (Hs.later hb1) (hG.later hb1)).mono ?_
          rintro e w3 ⟨rfl, hb3⟩
          go_wp2_with fail
          refine (node_any top r (by omega) hr _ (hG.later (below2 hb1 hb3))).mono ?_
          rintro e w4 ⟨rfl, hb4⟩
          go_wp2
          go_ret2
          exact ⟨rfl, below2 (below2 hb1 hb3) hb4⟩
      · have e : rb leaf m.toNat N.toNat (revL g (n + 1)) = (⟨#[]⟩, false) := by
          show (if N.toNat = 1 then (leaf, false) else _) = _
          rw [if_neg (by omega), if_neg hx]
        rw [e]
        clear e
        go_enter Tryd.func21, Tryd.ntmps21
        go_wp2_with fail
        refine (high_bad p n c g _ H hx).mono ?_
        rintro e w' ⟨rfl, rfl⟩
        go_wp2
        go_ret2
        exact ⟨rfl, Below.refl _ _⟩
end Go.Proofs.YtjamahpccblkiabDoor
