/- What shows growth (grown, Grown), called. -/
import Derived.Test.YtjamahpccblkiabDoorPub
namespace Go.Proofs.YtjamahpccblkiabDoor
open Go.RowKit
theorem grownF_len (f : Nat → ByteArray) : ∀ F m o n kn, (grownF f F m o n kn).length ≤ F
  | 0, _, _, _, _ => Nat.zero_le _
  | F + 1, m, o, n, kn => by
    simp only [grownF]
    split
    · split
      · exact Nat.zero_le _
      · simp
    · split
      · have := grownF_len f F m o (half n) kn
        simp; omega
      · have := grownF_len f F (m - half n) (o + half n) (n - half n) false
        simp; omega
theorem grownR_len (f : Nat → ByteArray) (m o n : Nat) (kn : Bool) : (grownR f m o n kn).length ≤ n := grownF_len f n m o n kn
theorem own_one {w : World} (x : ByteArray) : (w.alloc (.cells #[.string x] 9)).ownsRow w.heap.size 9 1 (.slice (some ⟨w.heap.size, 0, none⟩) 1 1) 1 (strs [x]) :=
  ⟨rfl, Or.inr ⟨w.heap.size, 1, #[.string x], rfl, Nat.le_refl _, heap_alloc_new w _, Nat.le_refl _, by unfold maxLen; omega, rfl, rfl⟩⟩
theorem own_low {w : World} {base base' : Nat} {e : TypeId} {v : Value} {n : Nat} {xs : List Value} (h : w.ownsRow base e 1 v n xs) (hb : base' ≤ base) : w.ownsRow base' e 1 v n xs := by
  refine ⟨h.1, ?_⟩
  rcases h.2 with h1 | ⟨g, cap, cur, h1, h2, h3⟩
  · exact Or.inl h1
  · exact Or.inr ⟨g, cap, cur, h1, by omega, h3⟩
set_option maxHeartbeats 4000000 in
theorem grown_any (f : Nat → ByteArray) (S : Nat → Prop) (b N : Nat) (hN : N < 1000000) : ∀ (F : Nat) (m a t : Int) (kn : Bool), (t - a).toNat ≤ F → a < m → m ≤ t → Prt a t N → ∀ (w : World), GL w → GD w → Tre w S b N f →
    Calls Tryd.prog 16 #[.pointer (some ⟨b, 0, none⟩), .int .i64 m, .int .i64 a, .int .i64 t, .bool kn] w fun e w' => ∃ v, e = .returned v ∧ w'.ownsRow w.heap.size 9 1 v (grownR f (m - a).toNat a.toNat (t - a).toNat kn).length (strs (grownR f (m - a).toNat a.toNat (t - a).toNat kn)) ∧ Below w.heap.size w w'
  | 0, m, a, t, kn, hF, h0, h1, H, w, hG, hD, hT => by omega
  | F + 1, m, a, t, kn, hF, h0, h1, H, w, hG, hD, hT => by
    have b0 := H.lo
    have b1 := H.hi
    have b2 := H.few
    have b3 : t ≤ 1000000 := by omega
    by_cases hall : m = t
    · subst hall
      cases kn with
      | true =>
        rw [grownR_all f _ (by omega)]
        go_enter Tryd.func16, Tryd.ntmps16
        go_wp2
        go_ret
        exact ⟨_, rfl, World.ownsRow_nil _ _ _ _, Below.refl _ _⟩
      | false =>
        rw [grownR_one f _ (by omega)]
        have i2 := root_prt f S b N hN a m H w hG hD hT
        generalize rootR f a.toNat (m - a).toNat = y at i2 ⊢
        go_enter Tryd.func16, Tryd.ntmps16
        go_wp2_with fail
        refine i2.mono ?_
        rintro e w3 ⟨rfl, hb3⟩
        go_wp2
        go_ret
        exact ⟨_, rfl, own_low (own_one y) hb3.size, hb3.alloc hb3.size _⟩
    · obtain ⟨h, hh, k1, k2, k3, k4⟩ := half_int (t - a) (by omega)
      have HH := fun w => half_any (t - a) (by omega) (by omega) w
      rw [hh] at HH
      obtain ⟨P1, P2⟩ := H.halves (by omega) k4 k1 k2 k3
      obtain ⟨i9, hi, hz0, hz1, hz2⟩ := info_parts info9
      have hoB : (m == t) = false := beq_eq_false_iff_ne.2 hall
      by_cases hm : m ≤ a + h
      · have e : grownR f (m - a).toNat a.toNat (t - a).toNat kn = grownR f (m - a).toNat a.toNat (a + h - a).toNat kn ++ [rootR f (a + h).toNat (t - (a + h)).toNat] := by
          rw [grownR_left f _ _ kn (by omega) (by omega) (by omega), k4, show (a + h - a).toNat = h.toNat by omega, show (a + h).toNat = a.toNat + h.toNat by omega, show (t - (a + h)).toNat = (t - a).toNat - h.toNat by omega]
        rw [e]
        have i1 := fun w hG hD hT => grown_any f S b N hN F m a (a + h) kn (by omega) h0 hm P1 w hG hD hT
        have i2 := fun w hG hD hT => root_prt f S b N hN (a + h) t P2 w hG hD hT
        have hl := grownR_len f (m - a).toNat a.toNat (a + h - a).toNat kn
        have hl2 : (a + h - a).toNat ≤ 64 := by omega
        generalize grownR f (m - a).toNat a.toNat (a + h - a).toNat kn = l at i1 hl ⊢
        generalize rootR f (a + h).toNat (t - (a + h)).toNat = y at i2 ⊢
        have hl64 : l.length ≤ 64 := by omega
        clear e hl hl2 hh k4 P1 P2 H hF
        go_enter Tryd.func16, Tryd.ntmps16
        go_wp2_with fail
        refine (HH _).mono ?_
        rintro e w1 ⟨rfl, rfl⟩
        go_wp2_with fail
        refine (i1 _ hG hD hT).mono ?_
        rintro e w2 ⟨v, rfl, hown, hb2⟩
        go_wp2_with fail
        refine (i2 _ (hG.later hb2) (hD.later hb2) (hT.later hb2)).mono ?_
        rintro e w3 ⟨rfl, hb3⟩
        have hown3 := own_later hown hb3
        have hs2 := hb2.size
        have hs3 := hb3.size
        go_wp2_with (at_builtin; refine wpList_append_lies _ (by rfl) (.tmp 35) (.tmp 40) 22 (by rfl) w1.heap.size 9 i9 _ 1 16 Tryd.underlying22 hi hz0 hz1 hz2 (by rfl) (by decide) v l.length _ (by rfl) (hown3.alloc _) ⟨w3.heap.size, 0, none⟩ 1 1 [.string y] (by rfl) (by rfl) (World.news_of_block (heap_alloc_new w3 _)) (by simp [Value.oneCell']) (by decide) (by unfold maxLen; omega) (by omega) (by simp; omega) _ rfl ?_; intro g6 cap6 w6 hown6 hgr6 hat6 hlt6)
        go_ret
        refine ⟨_, rfl, ?_, ((below2 hb2 hb3).alloc (by omega) _).grown hgr6 (by simp; omega) (fun k hk => (hown.lt k hk).1)⟩
        rw [strs_snoc, List.length_append]
        exact hown6
      · have e : grownR f (m - a).toNat a.toNat (t - a).toNat kn = grownR f (m - (a + h)).toNat (a + h).toNat (t - (a + h)).toNat false ++ [rootR f a.toNat (a + h - a).toNat] := by
          rw [grownR_right f _ _ kn (by omega) (by omega) (by omega), k4, show (a + h - a).toNat = h.toNat by omega, show (a + h).toNat = a.toNat + h.toNat by omega, show (t - (a + h)).toNat = (t - a).toNat - h.toNat by omega, show (m - (a + h)).toNat = (m - a).toNat - h.toNat by omega]
        rw [e]
        have i1 := fun w hG hD hT => grown_any f S b N hN F m (a + h) t false (by omega) (by omega) h1 P2 w hG hD hT
        have i2 := fun w hG hD hT => root_prt f S b N hN a (a + h) P1 w hG hD hT
        have hl := grownR_len f (m - (a + h)).toNat (a + h).toNat (t - (a + h)).toNat false
        have hl2 : (t - (a + h)).toNat ≤ 64 := by omega
        generalize grownR f (m - (a + h)).toNat (a + h).toNat (t - (a + h)).toNat false = l at i1 hl ⊢
        generalize rootR f a.toNat (a + h - a).toNat = y at i2 ⊢
        have hl64 : l.length ≤ 64 := by omega
        clear e hl hl2 hh k4 P1 P2 H hF
        go_enter Tryd.func16, Tryd.ntmps16
        go_wp2_with fail
        refine (HH _).mono ?_
        rintro e w1 ⟨rfl, rfl⟩
        go_wp2_with fail
        refine (i1 _ hG hD hT).mono ?_
        rintro e w2 ⟨v, rfl, hown, hb2⟩
        go_wp2_with fail
        refine (i2 _ (hG.later hb2) (hD.later hb2) (hT.later hb2)).mono ?_
        rintro e w3 ⟨rfl, hb3⟩
        have hown3 := own_later hown hb3
        have hs2 := hb2.size
        have hs3 := hb3.size
        go_wp2_with (at_builtin; refine wpList_append_lies _ (by rfl) (.tmp 46) (.tmp 51) 22 (by rfl) w1.heap.size 9 i9 _ 1 16 Tryd.underlying22 hi hz0 hz1 hz2 (by rfl) (by decide) v l.length _ (by rfl) (hown3.alloc _) ⟨w3.heap.size, 0, none⟩ 1 1 [.string y] (by rfl) (by rfl) (World.news_of_block (heap_alloc_new w3 _)) (by simp [Value.oneCell']) (by decide) (by unfold maxLen; omega) (by omega) (by simp; omega) _ rfl ?_; intro g6 cap6 w6 hown6 hgr6 hat6 hlt6)
        go_ret
        refine ⟨_, rfl, ?_, ((below2 hb2 hb3).alloc (by omega) _).grown hgr6 (by simp; omega) (fun k hk => (hown.lt k hk).1)⟩
        rw [strs_snoc, List.length_append]
        exact hown6
set_option maxHeartbeats 2000000 in
theorem Grown_any (f : Nat → ByteArray) (S : Nat → Prop) (b N : Nat) (hN : N ≤ 64) (m n : Int) (h0 : 1 ≤ m) (h1 : m ≤ n) (h2 : n ≤ N) (w : World) (hG : GL w) (hD : GD w) (hT : Tre w S b N f) :
    Calls Tryd.prog 6 #[.pointer (some ⟨b, 0, none⟩), .int .i64 m, .int .i64 n] w fun e w' => ∃ v, e = .returned (.tuple #[v, .int .i64 0]) ∧ w'.ownsRow w.heap.size 9 1 v (grownR f m.toNat 0 n.toNat true).length (strs (grownR f m.toNat 0 n.toNat true)) ∧ Below w.heap.size w w' := by
  have hp := grown_any f S b N (by omega) _ m 0 n true (Nat.le_refl _) (by omega) h1 (Prt.whole (by omega) h2 (by omega)) w hG hD hT
  rw [Int.sub_zero, Int.sub_zero] at hp
  have e0 : (0 : Int).toNat = 0 := rfl
  rw [e0] at hp
  have hL := len_tree N (by omega) f S b w hT
  generalize grownR f m.toNat 0 n.toNat true = l at hp ⊢
  have A1 : decide (n < 0) = false := decide_eq_false (by omega)
  have A2 : decide ((N : Int) < n) = false := decide_eq_false (by omega)
  have A3 : decide (m < 1) = false := decide_eq_false (by omega)
  have A4 : decide (n < m) = false := decide_eq_false (by omega)
  have B1 : ¬ n < 0 := by omega
  have B2 : ¬ (N : Int) < n := by omega
  have B3 : ¬ m < 1 := by omega
  have B4 : ¬ n < m := by omega
  clear h0 h1 h2
  go_enter Tryd.func6, Tryd.ntmps6
  go_wp2_with fail
  refine hL.mono ?_
  rintro e w1 ⟨rfl, rfl⟩
  go_wp2_with fail
  refine hp.mono ?_
  rintro e w2 ⟨v, rfl, hown, hb2⟩
  go_wp2
  go_ret2
  exact ⟨v, rfl, hown, hb2⟩
set_option maxHeartbeats 2000000 in
theorem Grown_bad (f : Nat → ByteArray) (S : Nat → Prop) (b N : Nat) (hN : N ≤ 64) (m n : Int) (h : n < 0 ∨ (N : Int) < n ∨ m < 1 ∨ n < m) (w : World) (hT : Tre w S b N f) :
    Calls Tryd.prog 6 #[.pointer (some ⟨b, 0, none⟩), .int .i64 m, .int .i64 n] w fun e w' => e = .returned (.tuple #[.slice none 0 0, .int .i64 1]) ∧ w' = w := by
  have hL := len_tree N (by omega) f S b w hT
  by_cases a : n < 0
  · clear h
    go_enter Tryd.func6, Tryd.ntmps6
    go_wp2
    all_goals (go_ret2; exact ⟨rfl, rfl⟩)
  · by_cases c : (N : Int) < n
    · clear h
      go_enter Tryd.func6, Tryd.ntmps6
      go_wp2_with fail
      refine hL.mono ?_
      rintro e w1 ⟨rfl, rfl⟩
      go_wp2
      all_goals (go_ret2; exact ⟨rfl, rfl⟩)
    · by_cases d : m < 1
      · clear h
        go_enter Tryd.func6, Tryd.ntmps6
        go_wp2_with fail
        refine hL.mono ?_
        rintro e w1 ⟨rfl, rfl⟩
        go_wp2
        all_goals (go_ret2; exact ⟨rfl, rfl⟩)
      · have g : n < m := by omega
        clear h
        go_enter Tryd.func6, Tryd.ntmps6
        go_wp2_with fail
        refine hL.mono ?_
        rintro e w1 ⟨rfl, rfl⟩
        go_wp2
        all_goals (go_ret2; exact ⟨rfl, rfl⟩)
end Go.Proofs.YtjamahpccblkiabDoor
