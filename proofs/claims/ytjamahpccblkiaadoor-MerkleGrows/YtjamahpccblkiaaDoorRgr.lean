/- The document's Grown, called; that what shows growth shows it. -/
import Derived.Test.YtjamahpccblkiaaDoorRpa
import Derived.Test.YtjamahpccblkiaaDoorGrn
import Derived.Test.YtjamahpccblkiaaDoorCon
namespace Go.Proofs.YtjamahpccblkiaaDoor
open Go.RowKit
theorem half_same {m n : Nat} (h : half n < m) (hm : m ≤ n) : half m = half n := by
  have a := half_twice (n := n) (by have := half_pos n; omega)
  exact half_unique (k := Nat.log2 (n - 1)) h (Nat.le_trans hm a)
theorem rbs_grown (f : Nat → ByteArray) (old : ByteArray) : ∀ (F m o n : Nat) (kn : Bool), n ≤ F → 1 ≤ m → m ≤ n → (kn = true → old = rootR f o m) → (∀ i, o ≤ i → i < o + n → (f i).size = 32) →
    rbs old m n kn (grownR f m o n kn).reverse = (rootR f o m, rootR f o n, true)
  | 0, m, o, n, kn, h, h1, h2, _, _ => by omega
  | F + 1, m, o, n, kn, h, h1, h2, hold, hs => by
    by_cases hmn : m = n
    · subst hmn
      cases kn with
      | true =>
        rw [grownR_all f o h1]
        show (if m = m ∧ true = true then (old, old, true) else _) = _
        rw [if_pos ⟨rfl, rfl⟩, ← hold rfl]
      | false =>
        rw [grownR_one f o h1]
        show (if m = m ∧ false = true then _ else if (rootR f o m).size = 32 then (if m = m then (rootR f o m, rootR f o m, ([] : List ByteArray).length == 0) else _) else _) = _
        rw [if_neg (by simp), if_pos (rootR_size f _ _ hs), if_pos rfl]
        rfl
    · have a := half_lt (n := n) (by omega)
      have b := half_pos n
      by_cases hmk : m ≤ half n
      · rw [grownR_left f m o kn h1 (by omega) hmk, List.reverse_append]
        have ih := rbs_grown f old F m o (half n) kn (by omega) h1 hmk hold (fun i h1 h2 => hs i h1 (by omega))
        show (if m = n ∧ kn = true then _ else if (rootR f (o + half n) (n - half n)).size = 32 then (if m = n then _ else if m ≤ half n then _ else _) else _) = _
        rw [if_neg (fun h => hmn h.1), if_pos (rootR_size f _ _ (fun i h1 h2 => hs i (by omega) (by omega))), if_neg hmn, if_pos hmk]
        simp only [List.append_eq, List.nil_append]
        rw [ih, rootR_two f o (n := n) (by omega)]
      · rw [grownR_right f m o kn h1 (by omega) hmk, List.reverse_append]
        have ih := rbs_grown f old F (m - half n) (o + half n) (n - half n) false (by omega) (by omega) (by omega) (fun h => by cases h) (fun i h1 h2 => hs i (by omega) (by omega))
        show (if m = n ∧ kn = true then _ else if (rootR f o (half n)).size = 32 then (if m = n then _ else if m ≤ half n then _ else _) else _) = _
        rw [if_neg (fun h => hmn h.1), if_pos (rootR_size f _ _ (fun i h1 h2 => hs i (by omega) (by omega))), if_neg hmn, if_neg hmk]
        simp only [List.append_eq, List.nil_append]
        rw [ih, rootR_two f o (n := n) (by omega), rootR_two f o (n := m) (by omega), half_same (by omega) h2]
theorem con_grown (f : Nat → ByteArray) (m n : Nat) (h1 : 1 ≤ m) (hm : m ≤ n) (hl : (grownR f m 0 n true).length ≤ 64) (hs : ∀ i, i < n → (f i).size = 32) :
    conA (rootR f 0 m) (rootR f 0 n) (m : Int) (n : Int) (fun i => (grownR f m 0 n true).getD i ByteArray.empty) (grownR f m 0 n true).length = 0 := by
  unfold conA
  rw [if_neg (by omega), revL_get, Int.toNat_natCast, Int.toNat_natCast, rbs_grown f _ n m 0 n true (Nat.le_refl _) h1 hm (fun _ => rfl) (fun i _ h2 => hs i (by omega))]
  exact if_pos rfl
set_option maxHeartbeats 8000000 in
theorem rgrown_any (g : Nat → ByteArray) (hg : ∀ i, (g i).size ≤ 400) : ∀ (F n o : Nat) (m : Int) (kn : Bool), n ≤ F → n ≤ 1000 → 1 ≤ m → m ≤ n → ∀ (p : Option Addr) (c : Nat) (w : World), Strs w p n c (fun i => g (o + i)) →
    Calls Tryd.prog 23 #[.int .i64 m, .slice p n c, .bool kn] w fun e w' => ∃ v, e = .returned v ∧ w'.ownsRow w.heap.size 9 1 v (grownR g m.toNat o n kn).length (strs (grownR g m.toNat o n kn)) ∧ Below w.heap.size w w'
  | 0, n, o, m, kn, hF, hn, h0, h1, p, c, w, H => by omega
  | F + 1, n, o, m, kn, hF, hn, h0, h1, p, c, w, H => by
    have hcap := H.cap
    have hm : maxLen = 9223372036854775807 := rfl
    by_cases hall : m = n
    · subst hall
      rw [Int.toNat_natCast]
      cases kn with
      | true =>
        rw [grownR_all g o (by omega)]
        go_enter Tryd.func23, Tryd.ntmps23
        go_wp2
        go_ret
        exact ⟨_, rfl, World.ownsRow_made w #[] 0 (Nat.le_refl _) (by omega) rfl, (Below.refl _ _).alloc (Nat.le_refl _) _⟩
      | false =>
        rw [grownR_one g o (by omega)]
        have i2 := rroot_any g hg n n o (Nat.le_refl _) hn p c w H
        generalize rootR g o n = y at i2 ⊢
        go_enter Tryd.func23, Tryd.ntmps23
        go_wp2_with fail
        refine i2.mono ?_
        rintro e w3 ⟨rfl, hb3⟩
        go_wp2
        go_ret
        exact ⟨_, rfl, own_low (own_one y) hb3.size, hb3.alloc hb3.size _⟩
    · obtain ⟨b, q, rfl, hb, hc⟩ := H.at' (by omega)
      obtain ⟨k, hk⟩ : ∃ k, half n = k := ⟨_, rfl⟩
      have k1 := half_lt (n := n) (by omega)
      have k2 := half_pos n
      have HH := fun w => rhalf_any (n : Int) (by omega) (by omega) w
      rw [Int.toNat_natCast, hk] at HH
      have H1 := H.less k (by omega)
      have H2 := (H.from k (by omega)).congr (g' := fun i => g (o + k + i)) (fun i _ => by show g (o + k + i) = g (o + (k + i)); rw [Nat.add_assoc])
      obtain ⟨i9, hi, hz0, hz1, hz2⟩ := info_parts info9
      have hkn : (k : Int) ≤ (n : Int) := by omega
      have hkc : (k : Int) ≤ (c : Int) := by omega
      have hnc : (n : Int) ≤ (c : Int) := by omega
      have hck : ¬ c = k := by omega
      have hmB : (m == (n : Int)) = false := beq_eq_false_iff_ne.2 hall
      by_cases hmk : m ≤ k
      · have e : grownR g m.toNat o n kn = grownR g m.toNat o k kn ++ [rootR g (o + k) (n - k)] := by
          rw [grownR_left g _ _ kn (by omega) (by omega) (by omega), hk]
        rw [e]
        have i1 := rgrown_any g hg F k o m kn (by omega) (by omega) h0 hmk (some ⟨b, q, none⟩) c
        have i2 := rroot_any g hg (n - k) (n - k) (o + k) (Nat.le_refl _) (by omega) (some ⟨b, q + k, none⟩) (c - k)
        have hl := grownR_len g m.toNat o k kn
        generalize grownR g m.toNat o k kn = l at i1 hl ⊢
        generalize rootR g (o + k) (n - k) = y at i2 ⊢
        have hl64 : l.length ≤ 1000 := by omega
        have hwr : IntKind.i64.wrap (m - (k : Int)) = m - (k : Int) := by rw [IntKind.wrap_i64]; omega
        clear e hl hk H hc
        go_enter Tryd.func23, Tryd.ntmps23
        go_wp2_with fail
        refine (HH _).mono ?_
        rintro e w1 ⟨rfl, rfl⟩
        go_wp2_with fail
        have H1d : Strs w1.drew (some ⟨b, q, none⟩) k c (fun i => g (o + i)) := ⟨H1.cap, H1.at'⟩
        have H2d : Strs w1.drew (some ⟨b, q + k, none⟩) (n - k) (c - k) (fun i => g (o + k + i)) := ⟨H2.cap, H2.at'⟩
        go_region_law ((first | (go_simp; go_at_call 23; refine (i1 _ H1d).mono ?_; rintro e w2 ⟨v, rfl, hown, hb2⟩; have hs2 := hb2.size; dsimp only) | (go_simp; go_at_call 14; refine (i2 _ (H2d.later hb2)).mono ?_; rintro e w3 ⟨rfl, hb3⟩; have hown3 := own_later hown hb3; have hs3 := hb3.size; dsimp only) | (refine step_append_lies _ (by rfl) (.tmp 28) (.tmp 33) 22 (by rfl) w1.heap.size 9 i9 _ 1 16 Tryd.underlying22 hi hz0 hz1 hz2 (by rfl) (by decide) v l.length _ (by rfl) (hown3.alloc _) ⟨w3.heap.size, 0, none⟩ 1 1 [.string y] (by rfl) (by rfl) (World.news_of_block (heap_alloc_new w3 _)) (by simp [Value.oneCell']) (by decide) (by unfold maxLen; omega) (by omega) (by simp; simp at hs2; omega) _ rfl ?_; intro g6 cap6 w6 hown6 hgr6 hat6 hlt6)))
        all_goals
          have hbz := ((below2 (undrew hb2) hb3).alloc (by have := hb2.size; have := hb3.size; simp at *; omega) (.cells #[.string y] 9)).grown hgr6 (by have := hb2.size; have := hb3.size; simp at *; omega) (fun k hk => (hown.lt k hk).1)
          have hown7 : w6.ownsRow w1.heap.size 9 1 (.slice (some ⟨g6, 0, none⟩) (l.length + 1) cap6) (l ++ [y]).length (strs (l ++ [y])) := by
            rw [strs_snoc, List.length_append]
            exact hown6
          clear hown6 hgr6 hat6 hlt6
          go_wp2
          go_ret
          exact ⟨_, rfl, hown7, hbz⟩
      · have e : grownR g m.toNat o n kn = grownR g (m - k).toNat (o + k) (n - k) false ++ [rootR g o k] := by
          rw [grownR_right g _ _ kn (by omega) (by omega) (by omega), hk, show (m - k).toNat = m.toNat - k by omega]
        rw [e]
        have i1 := rgrown_any g hg F (n - k) (o + k) (m - k) false (by omega) (by omega) (by omega) (by omega) (some ⟨b, q + k, none⟩) (c - k)
        have i2 := rroot_any g hg k k o (Nat.le_refl _) (by omega) (some ⟨b, q, none⟩) c
        have hl := grownR_len g (m - k).toNat (o + k) (n - k) false
        generalize grownR g (m - k).toNat (o + k) (n - k) false = l at i1 hl ⊢
        generalize rootR g o k = y at i2 ⊢
        have hl64 : l.length ≤ 1000 := by omega
        have hwr : IntKind.i64.wrap (m - (k : Int)) = m - (k : Int) := by rw [IntKind.wrap_i64]; omega
        clear e hl hk H hc
        go_enter Tryd.func23, Tryd.ntmps23
        go_wp2_with fail
        refine (HH _).mono ?_
        rintro e w1 ⟨rfl, rfl⟩
        go_wp2_with fail
        have H1d : Strs w1.drew (some ⟨b, q, none⟩) k c (fun i => g (o + i)) := ⟨H1.cap, H1.at'⟩
        have H2d : Strs w1.drew (some ⟨b, q + k, none⟩) (n - k) (c - k) (fun i => g (o + k + i)) := ⟨H2.cap, H2.at'⟩
        go_region_law ((first | (go_simp; go_at_call 23; refine (i1 _ H2d).mono ?_; rintro e w2 ⟨v, rfl, hown, hb2⟩; have hs2 := hb2.size; dsimp only) | (go_simp; go_at_call 14; refine (i2 _ (H1d.later hb2)).mono ?_; rintro e w3 ⟨rfl, hb3⟩; have hown3 := own_later hown hb3; have hs3 := hb3.size; dsimp only) | (refine step_append_lies _ (by rfl) (.tmp 41) (.tmp 46) 22 (by rfl) w1.heap.size 9 i9 _ 1 16 Tryd.underlying22 hi hz0 hz1 hz2 (by rfl) (by decide) v l.length _ (by rfl) (hown3.alloc _) ⟨w3.heap.size, 0, none⟩ 1 1 [.string y] (by rfl) (by rfl) (World.news_of_block (heap_alloc_new w3 _)) (by simp [Value.oneCell']) (by decide) (by unfold maxLen; omega) (by omega) (by simp; simp at hs2; omega) _ rfl ?_; intro g6 cap6 w6 hown6 hgr6 hat6 hlt6)))
        all_goals
          have hbz := ((below2 (undrew hb2) hb3).alloc (by have := hb2.size; have := hb3.size; simp at *; omega) (.cells #[.string y] 9)).grown hgr6 (by have := hb2.size; have := hb3.size; simp at *; omega) (fun k hk => (hown.lt k hk).1)
          have hown7 : w6.ownsRow w1.heap.size 9 1 (.slice (some ⟨g6, 0, none⟩) (l.length + 1) cap6) (l ++ [y]).length (strs (l ++ [y])) := by
            rw [strs_snoc, List.length_append]
            exact hown6
          clear hown6 hgr6 hat6 hlt6
          go_wp2
          go_ret
          exact ⟨_, rfl, hown7, hbz⟩
end Go.Proofs.YtjamahpccblkiaaDoor
