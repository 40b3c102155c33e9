/- The document's Path, called; that a path shows its leaf. -/
import Derived.Test.YtjamahpccblkiaaDoorGro
namespace Go.Proofs.YtjamahpccblkiaaDoor
open Go.RowKit
theorem rb_path (f : Nat → ByteArray) : ∀ (F m o n : Nat), n ≤ F → m < n → (∀ i, o ≤ i → i < o + n → (f i).size = 32) → rb (f (o + m)) m n (pathR f m o n).reverse = (rootR f o n, true)
  | 0, m, o, n, h, hm, _ => by omega
  | F + 1, m, o, n, h, hm, hs => by
    by_cases h1 : n = 1
    · subst h1
      obtain rfl : m = 0 := by omega
      rfl
    · have a := half_lt (n := n) (by omega)
      have b := half_pos n
      by_cases hmk : m < half n
      · rw [pathR_left f m o (by omega) hmk, List.reverse_append]
        show (if n = 1 then (f (o + m), false) else if (rootR f (o + half n) (n - half n)).size = 32 then (if m < half n then _ else _) else _) = _
        rw [if_neg h1, if_pos (rootR_size f _ _ (fun i h1 h2 => hs i (by omega) (by omega))), if_pos hmk]
        have ih := rb_path f F m o (half n) (by omega) hmk (fun i h1 h2 => hs i h1 (by omega))
        simp only [List.append_eq, List.nil_append]
        rw [ih, rootR_two f o (n := n) (by omega)]
      · rw [pathR_right f m o (by omega) hmk, List.reverse_append]
        show (if n = 1 then (f (o + m), false) else if (rootR f o (half n)).size = 32 then (if m < half n then _ else _) else _) = _
        rw [if_neg h1, if_pos (rootR_size f _ _ (fun i h1 h2 => hs i (by omega) (by omega))), if_neg hmk]
        have ih := rb_path f F (m - half n) (o + half n) (n - half n) (by omega) (by omega) (fun i h1 h2 => hs i (by omega) (by omega))
        rw [show o + half n + (m - half n) = o + m by omega] at ih
        simp only [List.append_eq, List.nil_append]
        rw [ih, rootR_two f o (n := n) (by omega)]
theorem revL_get (l : List ByteArray) : revL (fun i => l.getD i ByteArray.empty) l.length = l.reverse := by
  rw [← List.reverse_reverse (revL _ _), revL_rev]
  congr 1
  apply List.ext_getElem?
  intro i
  by_cases h : i < l.length
  · simp [h, List.getD_eq_getElem?_getD]
  · simp [h]
theorem ver_path (f : Nat → ByteArray) (m n : Nat) (hm : m < n) (hl : (pathR f m 0 n).length ≤ 64) (hs : ∀ i, i < n → (f i).size = 32) :
    verA (f m) (rootR f 0 n) (m : Int) (n : Int) (fun i => (pathR f m 0 n).getD i ByteArray.empty) (pathR f m 0 n).length = 0 := by
  unfold verA
  rw [if_neg (by omega), revL_get, Int.toNat_natCast, Int.toNat_natCast]
  have := rb_path f n m 0 n (Nat.le_refl _) hm (fun i _ h2 => hs i (by omega))
  rw [Nat.zero_add] at this
  rw [this]
  exact if_pos rfl
theorem undrew {w w' : World} (h : Below w.drew.heap.size w.drew w') : Below w.heap.size w w' := ⟨h.os, h.tape, h.output, h.size, h.block⟩
theorem undrewg {w w' : World} {o : Obj} {r : Option Nat} (h : (w.alloc o).grownBy w' r) : (w.alloc o).grownBy w' r := h
set_option maxHeartbeats 4000000 in
theorem rpath_any (g : Nat → ByteArray) (hg : ∀ i, (g i).size ≤ 400) : ∀ (F n o : Nat) (m : Int), n ≤ F → n ≤ 1000 → 0 ≤ m → m < n → ∀ (p : Option Addr) (c : Nat) (w : World), Strs w p n c (fun i => g (o + i)) →
    Calls Tryd.prog 20 #[.int .i64 m, .slice p n c] w fun e w' => ∃ v, e = .returned v ∧ w'.ownsRow w.heap.size 9 1 v (pathR g m.toNat o n).length (strs (pathR g m.toNat o n)) ∧ Below w.heap.size w w'
  | 0, n, o, m, hF, hn, h0, h1, p, c, w, H => by omega
  | F + 1, n, o, m, hF, hn, h0, h1, p, c, w, H => by
    obtain ⟨b, q, rfl, hb, hc⟩ := H.at' (by omega)
    have hcap := H.cap
    have hm : maxLen = 9223372036854775807 := rfl
    by_cases h1' : n = 1
    · subst h1'
      rw [pathR_one]
      go_enter Tryd.func20, Tryd.ntmps20
      go_wp2
      go_ret
      exact ⟨_, rfl, World.ownsRow_made w #[] 0 (Nat.le_refl _) (by omega) rfl, (Below.refl _ _).alloc (Nat.le_refl _) _⟩
    · obtain ⟨k, hk⟩ : ∃ k, half n = k := ⟨_, rfl⟩
      have k1 := half_lt (n := n) (by omega)
      have k2 := half_pos n
      have HH := fun w => rhalf_any (n : Int) (by omega) (by omega) w
      rw [Int.toNat_natCast, hk] at HH
      have H1 := H.less k (by omega)
      have H2 := (H.from k (by omega)).congr (g' := fun i => g (o + k + i)) (fun i _ => by show g (o + k + i) = g (o + (k + i)); rw [Nat.add_assoc])
      obtain ⟨i9, hi, hz0, hz1, hz2⟩ := info_parts info9
      have hkn : (k : Int) ≤ (n : Int) := by omega
      have hkc : (k : Int) ≤ (c : Int) := by omega
      have hnc : (n : Int) ≤ (c : Int) := by omega
      have hck : ¬ c = k := by omega
      have hn1 : ¬ (n : Int) ≤ 1 := by omega
      by_cases hmk : m < k
      · have e : pathR g m.toNat o n = pathR g m.toNat o k ++ [rootR g (o + k) (n - k)] := by
          rw [pathR_left g _ _ (by omega) (by omega), hk]
        rw [e]
        have i1 := rpath_any g hg F k o m (by omega) (by omega) h0 hmk (some ⟨b, q, none⟩) c
        have i2 := rroot_any g hg (n - k) (n - k) (o + k) (Nat.le_refl _) (by omega) (some ⟨b, q + k, none⟩) (c - k)
        have hl := pathR_len g m.toNat o k
        generalize pathR g m.toNat o k = l at i1 hl ⊢
        generalize rootR g (o + k) (n - k) = y at i2 ⊢
        have hl64 : l.length ≤ 1000 := by omega
        clear e hl hk H hc
        go_enter Tryd.func20, Tryd.ntmps20
        go_wp2_with fail
        refine (HH _).mono ?_
        rintro e w1 ⟨rfl, rfl⟩
        go_wp2_with fail
        have H1d : Strs w1.drew (some ⟨b, q, none⟩) k c (fun i => g (o + i)) := ⟨H1.cap, H1.at'⟩
        have H2d : Strs w1.drew (some ⟨b, q + k, none⟩) (n - k) (c - k) (fun i => g (o + k + i)) := ⟨H2.cap, H2.at'⟩
        go_region_law ((first | (go_simp; go_at_call 20; refine (i1 _ H1d).mono ?_; rintro e w2 ⟨v, rfl, hown, hb2⟩; have hs2 := hb2.size; dsimp only) | (go_simp; go_at_call 14; refine (i2 _ (H2d.later hb2)).mono ?_; rintro e w3 ⟨rfl, hb3⟩; have hown3 := own_later hown hb3; have hs3 := hb3.size; dsimp only) | (refine step_append_lies _ (by rfl) (.tmp 20) (.tmp 25) 22 (by rfl) w1.heap.size 9 i9 _ 1 16 Tryd.underlying22 hi hz0 hz1 hz2 (by rfl) (by decide) v l.length _ (by rfl) (hown3.alloc _) ⟨w3.heap.size, 0, none⟩ 1 1 [.string y] (by rfl) (by rfl) (World.news_of_block (heap_alloc_new w3 _)) (by simp [Value.oneCell']) (by decide) (by unfold maxLen; omega) (by omega) (by simp; simp at hs2; omega) _ rfl ?_; intro g6 cap6 w6 hown6 hgr6 hat6 hlt6)))
        all_goals
          have hbz := ((below2 (undrew hb2) hb3).alloc (by have := hb2.size; have := hb3.size; simp at *; omega) (.cells #[.string y] 9)).grown (undrewg hgr6) (by have := hb2.size; have := hb3.size; simp at *; omega) (fun k hk => (hown.lt k hk).1)
          have hown7 : w6.ownsRow w1.heap.size 9 1 (.slice (some ⟨g6, 0, none⟩) (l.length + 1) cap6) (l ++ [y]).length (strs (l ++ [y])) := by
            rw [strs_snoc, List.length_append]
            exact hown6
          clear hown6 hgr6 hat6 hlt6
          go_wp2
          go_ret
          exact ⟨_, rfl, hown7, hbz⟩
      · have e : pathR g m.toNat o n = pathR g (m - k).toNat (o + k) (n - k) ++ [rootR g o k] := by
          rw [pathR_right g _ _ (by omega) (by omega), hk, show (m - k).toNat = m.toNat - k by omega]
        rw [e]
        have i1 := rpath_any g hg F (n - k) (o + k) (m - k) (by omega) (by omega) (by omega) (by omega) (some ⟨b, q + k, none⟩) (c - k)
        have i2 := rroot_any g hg k k o (Nat.le_refl _) (by omega) (some ⟨b, q, none⟩) c
        have hl := pathR_len g (m - k).toNat (o + k) (n - k)
        generalize pathR g (m - k).toNat (o + k) (n - k) = l at i1 hl ⊢
        generalize rootR g o k = y at i2 ⊢
        have hl64 : l.length ≤ 1000 := by omega
        clear e hl hk H hc
        go_enter Tryd.func20, Tryd.ntmps20
        go_wp2_with fail
        refine (HH _).mono ?_
        rintro e w1 ⟨rfl, rfl⟩
        go_wp2_with fail
        have H1d : Strs w1.drew (some ⟨b, q, none⟩) k c (fun i => g (o + i)) := ⟨H1.cap, H1.at'⟩
        have H2d : Strs w1.drew (some ⟨b, q + k, none⟩) (n - k) (c - k) (fun i => g (o + k + i)) := ⟨H2.cap, H2.at'⟩
        have hwr : IntKind.i64.wrap (m - (k : Int)) = m - (k : Int) := by rw [IntKind.wrap_i64]; omega
        go_region_law ((first | (go_simp; go_at_call 20; refine (i1 _ H2d).mono ?_; rintro e w2 ⟨v, rfl, hown, hb2⟩; have hs2 := hb2.size; dsimp only) | (go_simp; go_at_call 14; refine (i2 _ (H1d.later hb2)).mono ?_; rintro e w3 ⟨rfl, hb3⟩; have hown3 := own_later hown hb3; have hs3 := hb3.size; dsimp only) | (refine step_append_lies _ (by rfl) (.tmp 33) (.tmp 38) 22 (by rfl) w1.heap.size 9 i9 _ 1 16 Tryd.underlying22 hi hz0 hz1 hz2 (by rfl) (by decide) v l.length _ (by rfl) (hown3.alloc _) ⟨w3.heap.size, 0, none⟩ 1 1 [.string y] (by rfl) (by rfl) (World.news_of_block (heap_alloc_new w3 _)) (by simp [Value.oneCell']) (by decide) (by unfold maxLen; omega) (by omega) (by simp; simp at hs2; omega) _ rfl ?_; intro g6 cap6 w6 hown6 hgr6 hat6 hlt6)))
        all_goals
          have hbz := ((below2 (undrew hb2) hb3).alloc (by have := hb2.size; have := hb3.size; simp at *; omega) (.cells #[.string y] 9)).grown (undrewg hgr6) (by have := hb2.size; have := hb3.size; simp at *; omega) (fun k hk => (hown.lt k hk).1)
          have hown7 : w6.ownsRow w1.heap.size 9 1 (.slice (some ⟨g6, 0, none⟩) (l.length + 1) cap6) (l ++ [y]).length (strs (l ++ [y])) := by
            rw [strs_snoc, List.length_append]
            exact hown6
          clear hown6 hgr6 hat6 hlt6
          go_wp2
          go_ret
          exact ⟨_, rfl, hown7, hbz⟩
end Go.Proofs.YtjamahpccblkiaaDoor
