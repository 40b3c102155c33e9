/- The document's cursor takes a number (with, Uint): what it answers in plain words; nothing that was there has changed. -/
import Derived.Test.YtmijbflgfbfbiaaBoo
import Derived.WalkKit
import Derived.WalkSpells
import Derived.WalkLawsBesides
import Derived.Deep.QuietTactic
import Derived.BigQuiet
import Derived.Deep.RegionWith
import Derived.Lib.Strings
namespace Go.Proofs.Ytmijbflgfbfbiaa
open Go.RowKit
theorem row3 {W : World} {g : Nat} {a b c : Value} {t : TypeId} (h : W.heap[g]? = some (.cells #[a, b, c] t (0, 0))) :
    (W.cell? ⟨g, 0, none⟩ = some a ∧ W.cell? ⟨g, 1, none⟩ = some b ∧ W.cell? ⟨g, 2, none⟩ = some c) ∧ (W.frozen? ⟨g, 0, none⟩ = false ∧ W.frozen? ⟨g, 1, none⟩ = false ∧ W.frozen? ⟨g, 2, none⟩ = false) :=
  ⟨⟨cell_of_row W _ 0 _ _ _ h, cell_of_row W _ 1 _ _ _ h, cell_of_row W _ 2 _ _ _ h⟩, frozen_of_row W _ _ _ _ h, frozen_of_row W _ _ _ _ h, frozen_of_row W _ _ _ _ h⟩
theorem below_two (w : World) (a b : Obj) : Below w.heap.size w ((w.alloc a).alloc b) := ((Below.refl _ _).alloc (Nat.le_refl _) _).alloc (by simp) _
theorem below_set3 {B g : Nat} {w W : World} (h : Below B w W) (hg : B ≤ g) (a b c : Value) : Below B w (((W.setCell ⟨g, 0, none⟩ a).setCell ⟨g, 1, none⟩ b).setCell ⟨g, 2, none⟩ c) :=
  ((h.setCell (by exact hg) a).setCell (by exact hg) b).setCell (by exact hg) c
set_option maxHeartbeats 400000 in
theorem with_any (s : ByteArray) (o e x : Int) (w : World) :
    Calls Try.prog 39 #[.agg #[.string s, .int .i64 o, .int .i64 e], .int .i64 x] w fun e w' => e = .returned (.agg #[.string s, .int .i64 o, .int .i64 x]) ∧ Below w.heap.size w w' := by
  go_enter Try.func39, Try.ntmps39
  go_wp2
  exact bodyPost_ret (v := .agg #[.string s, .int .i64 o, .int .i64 x]) (by simp [results, Try.results39, go_sem]) rfl ⟨rfl, below_two _ _ _⟩
set_option maxHeartbeats 400000 in
theorem ruint_err (s : ByteArray) (o e : Int) (h0 : e ≠ 0) (w : World) :
    Calls Try.prog 19 #[.agg #[.string s, .int .i64 o, .int .i64 e]] w fun r w' => r = .returned (.tuple #[.agg #[.string s, .int .i64 o, .int .i64 e], .int .u64 0]) ∧ Below w.heap.size w w' := by
  go_enter Try.func19, Try.ntmps19
  go_wp2
  exact bodyPost_ret (v := .tuple #[.agg #[.string s, .int .i64 o, .int .i64 e], .int .u64 0]) (by simp [results, Try.results19, go_sem]) rfl ⟨rfl, below_two _ _ _⟩
set_option maxRecDepth 20000 in
set_option maxHeartbeats 1000000 in
theorem ruint_ok (s : ByteArray) (o : Nat) (ho : o ≤ s.size) (hs : s.size ≤ 4096) (T : Tk) (hT : tk 0 0 (s.data.toList.drop o) = T) (w : World) :
    Calls Try.prog 19 #[.agg #[.string s, .int .i64 (o : Int), .int .i64 0]] w fun r w' => r = .returned (.tuple #[.agg #[.string s, .int .i64 ((o + T.sz : Nat) : Int), .int .i64 T.er], .int .u64 (T.n : Int)]) ∧ Below w.heap.size w w' := by
  go_enter Try.func19, Try.ntmps19
  go_wp2
  obtain ⟨g, hg⟩ : ∃ g, w.heap.size = g := ⟨_, rfl⟩
  have hB : Below w.heap.size w ((w.alloc (.cells #[.string s, .int .i64 (o : Int), .int .i64 0] 36)).alloc (.cells #[.string ⟨#[]⟩, .int .i64 0, .int .i64 0] 36)) := below_two _ _ _
  have h1 := heap_alloc2_old w (.cells #[.string s, .int .i64 (o : Int), .int .i64 0] 36) (.cells #[.string ⟨#[]⟩, .int .i64 0, .int .i64 0] 36)
  have h2 := heap_alloc2_new w (.cells #[.string s, .int .i64 (o : Int), .int .i64 0] 36) (.cells #[.string ⟨#[]⟩, .int .i64 0, .int .i64 0] 36)
  obtain ⟨W, hW⟩ : ∃ W, (w.alloc (.cells #[.string s, .int .i64 (o : Int), .int .i64 0] 36)).alloc (.cells #[.string ⟨#[]⟩, .int .i64 0, .int .i64 0] 36) = W := ⟨_, rfl⟩
  rw [hW] at hB h1 h2 ⊢
  rw [hg] at hB h1 h2 ⊢
  have HG : Hid (w.heap.size = g) := hg
  have hl2 := lt_of_row h2
  have hBs : g ≤ W.heap.size := by omega
  clear hW hg
  obtain ⟨⟨d0, d1, d2⟩, e0, e1, e2⟩ := row3 h1
  go_loopw [4, 5, 6] (fun c4 c5 c6 wr => ∃ n i : Nat, i ≤ 9 ∧ o + i ≤ s.size ∧ n < 128 ^ i ∧ tk n i (s.data.toList.drop (o + i)) = T ∧ c4 = .int .u64 (n : Int) ∧ c5 = .int .u64 ((128 ^ i : Nat) : Int) ∧ c6 = .int .i64 (i : Int) ∧ wr = W) (fun _ _ c6 _ => 11 - (intOf c6).toNat)
  case atStart =>
    exact ⟨0, 0, by omega, by omega, by decide, hT, rfl, rfl, rfl, rfl⟩
  case round =>
    obtain ⟨n, i, h9, his, hn, hk, rfl, rfl, rfl, rfl⟩ := hrel
    have HN : Hid (n < 128 ^ i) := hn
    clear hn hT
    have h11 : (i : Int) < 11 := by omega
    have hw1 : IntKind.i64.wrap ((o : Int) + (i : Int)) = (o : Int) + (i : Int) := by rw [IntKind.wrap_i64]; omega
    have hpw := pow9 h9
    obtain ⟨p, hp⟩ : ∃ p : Nat, 128 ^ i = p := ⟨_, rfl⟩
    rw [hp] at hpw
    have HP : Hid (128 ^ i = p) := hp
    rw [hp]
    clear hp
    by_cases hlt : o + i < s.size
    · have hlt' : ¬ (s.size : Int) ≤ (o : Int) + (i : Int) := by omega
      have hlt0 : (0 : Int) ≤ (o : Int) + (i : Int) := by omega
      have hlt2 : (o : Int) + (i : Int) < (s.size : Int) := by omega
      rw [drop_at s (o + i) hlt] at hk
      obtain ⟨b, hb⟩ : ∃ b : UInt8, s[o + i] = b := ⟨_, rfl⟩
      rw [hb] at hk
      have HK : Hid (tk n i (b :: s.data.toList.drop (o + i + 1)) = T) := hk
      clear hk
      have hb8 : b.toNat < 256 := UInt8.toNat_lt b
      by_cases hbad : (0 < i ∧ b.toNat = 0) ∨ (i = 9 ∧ 1 < b.toNat)
      · have HT : Hid (T = ⟨0, 0, 6⟩) := HK.out.symm.trans (tk_bad hbad)
        clear HK
        rcases hbad with ⟨hi0, hz⟩ | ⟨hi9, h1'⟩
        · have hi0' : (0 : Int) < (i : Int) := by omega
          have hz' : (b.toNat : Int) = 0 := by omega
          by_cases hi9 : i = 9
          · subst hi9
            have hn1 : ¬ (1 : Int) < (b.toNat : Int) := by omega
            go_wp2_with fail
            refine (with_any _ _ _ _ _).mono ?_
            rintro e w1 ⟨rfl, hb1⟩
            obtain ⟨⟨c0, c1, c2⟩, f0, f1, f2⟩ := row3 ((hb1.block _ hl2).trans h2)
            go_wp2
            rw [HT.out]
            exact bodyPost_ret (v := .tuple #[.agg #[.string s, .int .i64 (o : Int), .int .i64 6], .int .u64 0]) (by simp [results, Try.results19, go_sem, c0, c1, c2]) rfl ⟨rfl, by rw [HG.out]; exact below_set3 (hB.trans (hb1.mono hBs)) (Nat.le_succ g) _ _ _⟩
          · have hi9' : ¬ (i : Int) = 9 := by omega
            go_wp2_with fail
            refine (with_any _ _ _ _ _).mono ?_
            rintro e w1 ⟨rfl, hb1⟩
            obtain ⟨⟨c0, c1, c2⟩, f0, f1, f2⟩ := row3 ((hb1.block _ hl2).trans h2)
            go_wp2
            rw [HT.out]
            exact bodyPost_ret (v := .tuple #[.agg #[.string s, .int .i64 (o : Int), .int .i64 6], .int .u64 0]) (by simp [results, Try.results19, go_sem, c0, c1, c2]) rfl ⟨rfl, by rw [HG.out]; exact below_set3 (hB.trans (hb1.mono hBs)) (Nat.le_succ g) _ _ _⟩
        · subst hi9
          have h1'' : (1 : Int) < (b.toNat : Int) := by omega
          go_wp2_with fail
          refine (with_any _ _ _ _ _).mono ?_
          rintro e w1 ⟨rfl, hb1⟩
          obtain ⟨⟨c0, c1, c2⟩, f0, f1, f2⟩ := row3 ((hb1.block _ hl2).trans h2)
          go_wp2
          rw [HT.out]
          exact bodyPost_ret (v := .tuple #[.agg #[.string s, .int .i64 (o : Int), .int .i64 6], .int .u64 0]) (by simp [results, Try.results19, go_sem, c0, c1, c2]) rfl ⟨rfl, by rw [HG.out]; exact below_set3 (hB.trans (hb1.mono hBs)) (Nat.le_succ g) _ _ _⟩
      · have h64 := step_lt64 (b := b.toNat) h9 HN.out (fun h => by
          rcases Nat.lt_or_ge 1 b.toNat with hh | hh
          · exact absurd (Or.inr ⟨h, hh⟩) hbad
          · exact hh)
        have HP0 := HP.out
        obtain ⟨q, hq⟩ : ∃ q : Nat, b.toNat % 128 * 128 ^ i = q := ⟨_, rfl⟩
        rw [hq] at h64
        have HQ : Hid (b.toNat % 128 * 128 ^ i = q) := hq
        have hmul : (b.toNat : Int) % 128 * (p : Int) = (q : Int) := by rw [← hq, HP0]; push_cast; rfl
        clear hq HP0
        have m1 : IntKind.u64.wrap (q : Int) = (q : Int) := by rw [IntKind.wrap_u64]; omega
        have m2 : IntKind.u64.wrap ((n : Int) + (q : Int)) = (n : Int) + (q : Int) := by rw [IntKind.wrap_u64]; omega
        have m4 : IntKind.i64.wrap ((o : Int) + (i : Int) + 1) = (o : Int) + (i : Int) + 1 := by rw [IntKind.wrap_i64]; omega
        obtain ⟨⟨k0, k1, k2⟩, j0, j1, j2⟩ := row3 h2
        by_cases hi9 : i = 9
        · subst hi9
          have hnz : ¬ (b.toNat : Int) = 0 := by omega
          have hn1 : ¬ (1 : Int) < (b.toNat : Int) := by omega
          have h128' : (b.toNat : Int) < 128 := by omega
          have HT : Hid (T = ⟨n + b.toNat % 128 * 128 ^ 9, 9 + 1, 0⟩) := HK.out.symm.trans (tk_end hbad (by omega))
          clear HK hbad
          have hp9 : p = 9223372036854775808 := HP.out.symm.trans (by decide)
          have m3 : IntKind.u64.wrap ((p : Int) * 128) = 0 := by rw [IntKind.wrap_u64]; omega
          have m5 : IntKind.i64.wrap ((o : Int) + 9 + 1) = (o : Int) + 9 + 1 := by rw [IntKind.wrap_i64]; omega
          have m6 : IntKind.i64.wrap ((o : Int) + 9) = (o : Int) + 9 := by rw [IntKind.wrap_i64]; omega
          have hl9 : ¬ (s.size : Int) ≤ (o : Int) + 9 := by omega
          have hl9' : (o : Int) + 9 < (s.size : Int) := by omega
          have hl90 : (0 : Int) ≤ (o : Int) + 9 := by omega
          clear hp9
          go_wp2
          rw [HT.out, HQ.out]
          exact bodyPost_ret (v := .tuple #[.agg #[.string s, .int .i64 ((o : Int) + 9 + 1), .int .i64 0], .int .u64 ((n : Int) + (q : Int))]) (by simp [results, Try.results19, go_sem, k0, k1, k2]) rfl ⟨by simp [Int.add_assoc], by rw [HG.out]; exact below_set3 hB (Nat.le_succ g) _ _ _⟩
        · have hi9' : ¬ (i : Int) = 9 := by omega
          have hp8 : p * 128 ≤ 9223372036854775808 := by
            have := pow9 (i := i + 1) (by omega)
            rw [Nat.pow_succ, HP.out] at this
            exact this
          have m3 : IntKind.u64.wrap ((p : Int) * 128) = (p : Int) * 128 := by rw [IntKind.wrap_u64]; omega
          by_cases h128 : b.toNat < 128
          · have h128' : (b.toNat : Int) < 128 := by omega
            have HT : Hid (T = ⟨n + b.toNat % 128 * 128 ^ i, i + 1, 0⟩) := HK.out.symm.trans (tk_end hbad h128)
            clear HK
            by_cases hi0 : i = 0
            · have hi0' : ¬ (0 : Int) < (i : Int) := by omega
              clear hbad hi0
              go_wp2
              rw [HT.out, HQ.out]
              exact bodyPost_ret (v := .tuple #[.agg #[.string s, .int .i64 ((o : Int) + (i : Int) + 1), .int .i64 0], .int .u64 ((n : Int) + (q : Int))]) (by simp [results, Try.results19, go_sem, k0, k1, k2]) rfl ⟨by simp [Int.add_assoc], by rw [HG.out]; exact below_set3 hB (Nat.le_succ g) _ _ _⟩
            · have hi0' : (0 : Int) < (i : Int) := by omega
              have hnz : ¬ (b.toNat : Int) = 0 := by omega
              clear hbad
              go_wp2
              rw [HT.out, HQ.out]
              exact bodyPost_ret (v := .tuple #[.agg #[.string s, .int .i64 ((o : Int) + (i : Int) + 1), .int .i64 0], .int .u64 ((n : Int) + (q : Int))]) (by simp [results, Try.results19, go_sem, k0, k1, k2]) rfl ⟨by simp [Int.add_assoc], by rw [HG.out]; exact below_set3 hB (Nat.le_succ g) _ _ _⟩
          · have h128' : ¬ (b.toNat : Int) < 128 := by omega
            have HT : Hid (tk (n + b.toNat % 128 * 128 ^ i) (i + 1) (s.data.toList.drop (o + i + 1)) = T) := (tk_on hbad h128).symm.trans HK.out
            clear HK
            by_cases hi0 : i = 0
            · have hi0' : ¬ (0 : Int) < (i : Int) := by omega
              clear hbad hi0
              go_wp2
              go_roundw
              case rel =>
                exact ⟨n + q, i + 1, by omega, by omega, by rw [← HQ.out]; exact step_lt HN.out, by rw [← HQ.out]; exact HT.out, by go_num, by rw [Nat.pow_succ, HP.out]; go_num, by go_num, by trivial⟩
              case measure => simp [intOf]; omega
            · have hi0' : (0 : Int) < (i : Int) := by omega
              have hnz : ¬ (b.toNat : Int) = 0 := by omega
              clear hbad
              go_wp2
              go_roundw
              case rel =>
                exact ⟨n + q, i + 1, by omega, by omega, by rw [← HQ.out]; exact step_lt HN.out, by rw [← HQ.out]; exact HT.out, by go_num, by rw [Nat.pow_succ, HP.out]; go_num, by go_num, by trivial⟩
              case measure => simp [intOf]; omega
    · have hlt' : (s.size : Int) ≤ (o : Int) + (i : Int) := by omega
      have hd : s.data.toList.drop (o + i) = [] := List.drop_eq_nil_of_le (by rw [← Lib.size_eq]; omega)
      rw [hd] at hk
      have HT : Hid (T = ⟨0, 0, 4⟩) := hk.symm
      clear hk hd
      go_wp2_with fail
      refine (with_any _ _ _ _ _).mono ?_
      rintro e w1 ⟨rfl, hb1⟩
      obtain ⟨⟨c0, c1, c2⟩, f0, f1, f2⟩ := row3 ((hb1.block _ hl2).trans h2)
      go_wp2
      rw [HT.out]
      exact bodyPost_ret (v := .tuple #[.agg #[.string s, .int .i64 (o : Int), .int .i64 4], .int .u64 0]) (by simp [results, Try.results19, go_sem, c0, c1, c2]) rfl ⟨rfl, by rw [HG.out]; exact below_set3 (hB.trans (hb1.mono hBs)) (Nat.le_succ g) _ _ _⟩
end Go.Proofs.Ytmijbflgfbfbiaa
