/- The document's cursor takes a number (with, Uint): what it answers in plain words; nothing that was there has changed. The document's cursor takes (Uint, Int, Count, Bytes) and ends (End): what it answers in plain words; nothing that was there has changed. The document's cursor takes bytes (Bytes), and ends (End): what it answers in plain words; nothing that was there has changed. The document's cursor takes yes or no, and texts (Bool, Text): what it answers in plain words; nothing that was there has changed. The document's cursor takes a text (Text), in plain words; bytes that a cursor has behind it are no more than there are. -/
import Derived.Test.YtaocbkloafhmeaaDoorEnx
import Derived.WalkKit
import Derived.WalkSpells
import Derived.WalkLawsBesides
import Derived.Deep.QuietTactic
import Derived.BigQuiet
import Derived.Deep.RegionWith
import Derived.Lib.Strings
import Derived.Deep.RegionHeld3
namespace Go.Proofs.YtaocbkloafhmeaaDoor
open Go.RowKit
theorem row3 {W : World} {g : Nat} {a b c : Value} {t : TypeId} (h : W.heap[g]? = some (.cells #[a, b, c] t (0, 0))) :
    (W.cell? ⟨g, 0, none⟩ = some a ∧ W.cell? ⟨g, 1, none⟩ = some b ∧ W.cell? ⟨g, 2, none⟩ = some c) ∧ (W.frozen? ⟨g, 0, none⟩ = false ∧ W.frozen? ⟨g, 1, none⟩ = false ∧ W.frozen? ⟨g, 2, none⟩ = false) :=
  ⟨⟨cell_of_row W _ 0 _ _ _ h, cell_of_row W _ 1 _ _ _ h, cell_of_row W _ 2 _ _ _ h⟩, frozen_of_row W _ _ _ _ h, frozen_of_row W _ _ _ _ h, frozen_of_row W _ _ _ _ h⟩
theorem below_two (w : World) (a b : Obj) : Below w.heap.size w ((w.alloc a).alloc b) := ((Below.refl _ _).alloc (Nat.le_refl _) _).alloc (by simp) _
theorem below_set3 {B g : Nat} {w W : World} (h : Below B w W) (hg : B ≤ g) (a b c : Value) : Below B w (((W.setCell ⟨g, 0, none⟩ a).setCell ⟨g, 1, none⟩ b).setCell ⟨g, 2, none⟩ c) :=
  ((h.setCell (by exact hg) a).setCell (by exact hg) b).setCell (by exact hg) c
set_option maxHeartbeats 400000 in
theorem with_any (s : ByteArray) (o e x : Int) (w : World) :
    Calls Tryd.prog 90 #[.agg #[.string s, .int .i64 o, .int .i64 e], .int .i64 x] w fun e w' => e = .returned (.agg #[.string s, .int .i64 o, .int .i64 x]) ∧ Below w.heap.size w w' := by
  go_enter Tryd.func90, Tryd.ntmps90
  go_wp2
  exact bodyPost_ret (v := .agg #[.string s, .int .i64 o, .int .i64 x]) (by simp [results, Tryd.results90, go_sem]) rfl ⟨rfl, below_two _ _ _⟩
set_option maxHeartbeats 400000 in
theorem ruint_err (s : ByteArray) (o e : Int) (h0 : e ≠ 0) (w : World) :
    Calls Tryd.prog 62 #[.agg #[.string s, .int .i64 o, .int .i64 e]] w fun r w' => r = .returned (.tuple #[.agg #[.string s, .int .i64 o, .int .i64 e], .int .u64 0]) ∧ Below w.heap.size w w' := by
  go_enter Tryd.func62, Tryd.ntmps62
  go_wp2
  exact bodyPost_ret (v := .tuple #[.agg #[.string s, .int .i64 o, .int .i64 e], .int .u64 0]) (by simp [results, Tryd.results62, go_sem]) rfl ⟨rfl, below_two _ _ _⟩
set_option maxRecDepth 20000 in
set_option maxHeartbeats 1000000 in
theorem ruint_ok (s : ByteArray) (o : Nat) (ho : o ≤ s.size) (hs : s.size ≤ 72057594037927936) (T : Tk) (hT : tk 0 0 (s.data.toList.drop o) = T) (w : World) :
    Calls Tryd.prog 62 #[.agg #[.string s, .int .i64 (o : Int), .int .i64 0]] w fun r w' => r = .returned (.tuple #[.agg #[.string s, .int .i64 ((o + T.sz : Nat) : Int), .int .i64 T.er], .int .u64 (T.n : Int)]) ∧ Below w.heap.size w w' := by
  go_enter Tryd.func62, Tryd.ntmps62
  go_wp2
  obtain ⟨g, hg⟩ : ∃ g, w.heap.size = g := ⟨_, rfl⟩
  have hB : Below w.heap.size w ((w.alloc (.cells #[.string s, .int .i64 (o : Int), .int .i64 0] 91)).alloc (.cells #[.string ⟨#[]⟩, .int .i64 0, .int .i64 0] 91)) := below_two _ _ _
  have h1 := heap_alloc2_old w (.cells #[.string s, .int .i64 (o : Int), .int .i64 0] 91) (.cells #[.string ⟨#[]⟩, .int .i64 0, .int .i64 0] 91)
  have h2 := heap_alloc2_new w (.cells #[.string s, .int .i64 (o : Int), .int .i64 0] 91) (.cells #[.string ⟨#[]⟩, .int .i64 0, .int .i64 0] 91)
  obtain ⟨W, hW⟩ : ∃ W, (w.alloc (.cells #[.string s, .int .i64 (o : Int), .int .i64 0] 91)).alloc (.cells #[.string ⟨#[]⟩, .int .i64 0, .int .i64 0] 91) = W := ⟨_, rfl⟩
  rw [hW] at hB h1 h2 ⊢
  rw [hg] at hB h1 h2 ⊢
  have HG : Hid (w.heap.size = g) := hg
  have hl2 := elt_of_row h2
  have hBs : g ≤ W.heap.size := by omega
  clear hW hg
  obtain ⟨⟨d0, d1, d2⟩, e0, e1, e2⟩ := row3 h1
  go_loopw [4, 5, 6] (fun c4 c5 c6 wr => ∃ n i : Nat, i ≤ 9 ∧ o + i ≤ s.size ∧ n < 128 ^ i ∧ tk n i (s.data.toList.drop (o + i)) = T ∧ c4 = .int .u64 (n : Int) ∧ c5 = .int .u64 ((128 ^ i : Nat) : Int) ∧ c6 = .int .i64 (i : Int) ∧ wr = W) (fun _ _ c6 _ => 11 - (intOf c6).toNat)
  case atStart =>
    exact ⟨0, 0, by omega, by omega, by decide, hT, rfl, rfl, rfl, rfl⟩
  case round =>
    obtain ⟨n, i, h9, his, hn, hk, rfl, rfl, rfl, rfl⟩ := hrel
    have HN : Hid (n < 128 ^ i) := hn
    clear hn hT
    have h11 : (i : Int) < 11 := by omega
    have hw1 : IntKind.i64.wrap ((o : Int) + (i : Int)) = (o : Int) + (i : Int) := by rw [IntKind.wrap_i64]; omega
    have hpw := pow9 h9
    obtain ⟨p, hp⟩ : ∃ p : Nat, 128 ^ i = p := ⟨_, rfl⟩
    rw [hp] at hpw
    have HP : Hid (128 ^ i = p) := hp
    rw [hp]
    clear hp
    by_cases hlt : o + i < s.size
    · have hlt' : ¬ (s.size : Int) ≤ (o : Int) + (i : Int) := by omega
      have hlt0 : (0 : Int) ≤ (o : Int) + (i : Int) := by omega
      have hlt2 : (o : Int) + (i : Int) < (s.size : Int) := by omega
      rw [drop_at s (o + i) hlt] at hk
      obtain ⟨b, hb⟩ : ∃ b : UInt8, s[o + i] = b := ⟨_, rfl⟩
      rw [hb] at hk
      have HK : Hid (tk n i (b :: s.data.toList.drop (o + i + 1)) = T) := hk
      clear hk
      have hb8 : b.toNat < 256 := UInt8.toNat_lt b
      by_cases hbad : (0 < i ∧ b.toNat = 0) ∨ (i = 9 ∧ 1 < b.toNat)
      · have HT : Hid (T = ⟨0, 0, 6⟩) := HK.out.symm.trans (tk_bad hbad)
        clear HK
        rcases hbad with ⟨hi0, hz⟩ | ⟨hi9, h1'⟩
        · have hi0' : (0 : Int) < (i : Int) := by omega
          have hz' : (b.toNat : Int) = 0 := by omega
          by_cases hi9 : i = 9
          · subst hi9
            have hn1 : ¬ (1 : Int) < (b.toNat : Int) := by omega
            go_wp2_with fail
            refine (with_any _ _ _ _ _).mono ?_
            rintro e w1 ⟨rfl, hb1⟩
            obtain ⟨⟨c0, c1, c2⟩, f0, f1, f2⟩ := row3 ((hb1.block _ hl2).trans h2)
            go_wp2
            rw [HT.out]
            exact bodyPost_ret (v := .tuple #[.agg #[.string s, .int .i64 (o : Int), .int .i64 6], .int .u64 0]) (by simp [results, Tryd.results62, go_sem, c0, c1, c2]) rfl ⟨rfl, by rw [HG.out]; exact below_set3 (hB.trans (hb1.mono hBs)) (Nat.le_succ g) _ _ _⟩
          · have hi9' : ¬ (i : Int) = 9 := by omega
            go_wp2_with fail
            refine (with_any _ _ _ _ _).mono ?_
            rintro e w1 ⟨rfl, hb1⟩
            obtain ⟨⟨c0, c1, c2⟩, f0, f1, f2⟩ := row3 ((hb1.block _ hl2).trans h2)
            go_wp2
            rw [HT.out]
            exact bodyPost_ret (v := .tuple #[.agg #[.string s, .int .i64 (o : Int), .int .i64 6], .int .u64 0]) (by simp [results, Tryd.results62, go_sem, c0, c1, c2]) rfl ⟨rfl, by rw [HG.out]; exact below_set3 (hB.trans (hb1.mono hBs)) (Nat.le_succ g) _ _ _⟩
        · subst hi9
          have h1'' : (1 : Int) < (b.toNat : Int) := by omega
          go_wp2_with fail
          refine (with_any _ _ _ _ _).mono ?_
          rintro e w1 ⟨rfl, hb1⟩
          obtain ⟨⟨c0, c1, c2⟩, f0, f1, f2⟩ := row3 ((hb1.block _ hl2).trans h2)
          go_wp2
          rw [HT.out]
          exact bodyPost_ret (v := .tuple #[.agg #[.string s, .int .i64 (o : Int), .int .i64 6], .int .u64 0]) (by simp [results, Tryd.results62, go_sem, c0, c1, c2]) rfl ⟨rfl, by rw [HG.out]; exact below_set3 (hB.trans (hb1.mono hBs)) (Nat.le_succ g) _ _ _⟩
      · have h64 := step_lt64 (b := b.toNat) h9 HN.out (fun h => by
          rcases Nat.lt_or_ge 1 b.toNat with hh | hh
          · exact absurd (Or.inr ⟨h, hh⟩) hbad
          · exact hh)
        have HP0 := HP.out
        obtain ⟨q, hq⟩ : ∃ q : Nat, b.toNat % 128 * 128 ^ i = q := ⟨_, rfl⟩
        rw [hq] at h64
        have HQ : Hid (b.toNat % 128 * 128 ^ i = q) := hq
        have hmul : (b.toNat : Int) % 128 * (p : Int) = (q : Int) := by rw [← hq, HP0]; push_cast; rfl
        clear hq HP0
        have m1 : IntKind.u64.wrap (q : Int) = (q : Int) := by rw [IntKind.wrap_u64]; omega
        have m2 : IntKind.u64.wrap ((n : Int) + (q : Int)) = (n : Int) + (q : Int) := by rw [IntKind.wrap_u64]; omega
        have m4 : IntKind.i64.wrap ((o : Int) + (i : Int) + 1) = (o : Int) + (i : Int) + 1 := by rw [IntKind.wrap_i64]; omega
        obtain ⟨⟨k0, k1, k2⟩, j0, j1, j2⟩ := row3 h2
        by_cases hi9 : i = 9
        · subst hi9
          have hnz : ¬ (b.toNat : Int) = 0 := by omega
          have hn1 : ¬ (1 : Int) < (b.toNat : Int) := by omega
          have h128' : (b.toNat : Int) < 128 := by omega
          have HT : Hid (T = ⟨n + b.toNat % 128 * 128 ^ 9, 9 + 1, 0⟩) := HK.out.symm.trans (tk_end hbad (by omega))
          clear HK hbad
          have hp9 : p = 9223372036854775808 := HP.out.symm.trans (by decide)
          have m3 : IntKind.u64.wrap ((p : Int) * 128) = 0 := by rw [IntKind.wrap_u64]; omega
          have m5 : IntKind.i64.wrap ((o : Int) + 9 + 1) = (o : Int) + 9 + 1 := by rw [IntKind.wrap_i64]; omega
          have m6 : IntKind.i64.wrap ((o : Int) + 9) = (o : Int) + 9 := by rw [IntKind.wrap_i64]; omega
          have hl9 : ¬ (s.size : Int) ≤ (o : Int) + 9 := by omega
          have hl9' : (o : Int) + 9 < (s.size : Int) := by omega
          have hl90 : (0 : Int) ≤ (o : Int) + 9 := by omega
          clear hp9
          go_wp2
          rw [HT.out, HQ.out]
          exact bodyPost_ret (v := .tuple #[.agg #[.string s, .int .i64 ((o : Int) + 9 + 1), .int .i64 0], .int .u64 ((n : Int) + (q : Int))]) (by simp [results, Tryd.results62, go_sem, k0, k1, k2]) rfl ⟨by simp [Int.add_assoc], by rw [HG.out]; exact below_set3 hB (Nat.le_succ g) _ _ _⟩
        · have hi9' : ¬ (i : Int) = 9 := by omega
          have hp8 : p * 128 ≤ 9223372036854775808 := by
            have := pow9 (i := i + 1) (by omega)
            rw [Nat.pow_succ, HP.out] at this
            exact this
          have m3 : IntKind.u64.wrap ((p : Int) * 128) = (p : Int) * 128 := by rw [IntKind.wrap_u64]; omega
          by_cases h128 : b.toNat < 128
          · have h128' : (b.toNat : Int) < 128 := by omega
            have HT : Hid (T = ⟨n + b.toNat % 128 * 128 ^ i, i + 1, 0⟩) := HK.out.symm.trans (tk_end hbad h128)
            clear HK
            by_cases hi0 : i = 0
            · have hi0' : ¬ (0 : Int) < (i : Int) := by omega
              clear hbad hi0
              go_wp2
              rw [HT.out, HQ.out]
              exact bodyPost_ret (v := .tuple #[.agg #[.string s, .int .i64 ((o : Int) + (i : Int) + 1), .int .i64 0], .int .u64 ((n : Int) + (q : Int))]) (by simp [results, Tryd.results62, go_sem, k0, k1, k2]) rfl ⟨by simp [Int.add_assoc], by rw [HG.out]; exact below_set3 hB (Nat.le_succ g) _ _ _⟩
            · have hi0' : (0 : Int) < (i : Int) := by omega
              have hnz : ¬ (b.toNat : Int) = 0 := by omega
              clear hbad
              go_wp2
              rw [HT.out, HQ.out]
              exact bodyPost_ret (v := .tuple #[.agg #[.string s, .int .i64 ((o : Int) + (i : Int) + 1), .int .i64 0], .int .u64 ((n : Int) + (q : Int))]) (by simp [results, Tryd.results62, go_sem, k0, k1, k2]) rfl ⟨by simp [Int.add_assoc], by rw [HG.out]; exact below_set3 hB (Nat.le_succ g) _ _ _⟩
          · have h128' : ¬ (b.toNat : Int) < 128 := by omega
            have HT : Hid (tk (n + b.toNat % 128 * 128 ^ i) (i + 1) (s.data.toList.drop (o + i + 1)) = T) := (tk_on hbad h128).symm.trans HK.out
            clear HK
            by_cases hi0 : i = 0
            · have hi0' : ¬ (0 : Int) < (i : Int) := by omega
              clear hbad hi0
              go_wp2
              go_roundw
              case rel =>
                exact ⟨n + q, i + 1, by omega, by omega, by rw [← HQ.out]; exact step_lt HN.out, by rw [← HQ.out]; exact HT.out, by go_num, by rw [Nat.pow_succ, HP.out]; go_num, by go_num, by trivial⟩
              case measure => simp [intOf]; omega
            · have hi0' : (0 : Int) < (i : Int) := by omega
              have hnz : ¬ (b.toNat : Int) = 0 := by omega
              clear hbad
              go_wp2
              go_roundw
              case rel =>
                exact ⟨n + q, i + 1, by omega, by omega, by rw [← HQ.out]; exact step_lt HN.out, by rw [← HQ.out]; exact HT.out, by go_num, by rw [Nat.pow_succ, HP.out]; go_num, by go_num, by trivial⟩
              case measure => simp [intOf]; omega
    · have hlt' : (s.size : Int) ≤ (o : Int) + (i : Int) := by omega
      have hd : s.data.toList.drop (o + i) = [] := List.drop_eq_nil_of_le (by rw [← Lib.size_eq]; omega)
      rw [hd] at hk
      have HT : Hid (T = ⟨0, 0, 4⟩) := hk.symm
      clear hk hd
      go_wp2_with fail
      refine (with_any _ _ _ _ _).mono ?_
      rintro e w1 ⟨rfl, hb1⟩
      obtain ⟨⟨c0, c1, c2⟩, f0, f1, f2⟩ := row3 ((hb1.block _ hl2).trans h2)
      go_wp2
      rw [HT.out]
      exact bodyPost_ret (v := .tuple #[.agg #[.string s, .int .i64 (o : Int), .int .i64 4], .int .u64 0]) (by simp [results, Tryd.results62, go_sem, c0, c1, c2]) rfl ⟨rfl, by rw [HG.out]; exact below_set3 (hB.trans (hb1.mono hBs)) (Nat.le_succ g) _ _ _⟩
end Go.Proofs.YtaocbkloafhmeaaDoor
namespace Go.Proofs.YtaocbkloafhmeaaDoor
open Go.RowKit
theorem ruint_at (s : ByteArray) (o : Nat) (er : Int) (ho : o ≤ s.size) (hs : s.size ≤ 72057594037927936) (w : World) :
    Calls Tryd.prog 62 #[.agg #[.string s, .int .i64 (o : Int), .int .i64 er]] w fun r w' => r = .returned (.tuple #[.agg #[.string s, .int .i64 ((uintA s o er).o : Int), .int .i64 (uintA s o er).e], .int .u64 ((uintA s o er).v : Int)]) ∧ Below w.heap.size w w' := by
  by_cases h0 : er = 0
  · subst h0
    have hA : uintA s o 0 = ⟨(tkA s o).n, o + (tkA s o).sz, (tkA s o).er⟩ := if_pos rfl
    rw [hA]
    exact ruint_ok s o ho hs (tkA s o) rfl w
  · have hA : uintA s o er = ⟨0, o, er⟩ := if_neg h0
    rw [hA]
    exact ruint_err s o er h0 w
theorem below_call {w w1 : World} (a b : Obj) (hb : Below ((w.alloc a).alloc b).heap.size ((w.alloc a).alloc b) w1) : Below w.heap.size w w1 ∧ w.heap.size + 2 ≤ w1.heap.size := by
  have h := below_two w a b
  have h2 := hb.size
  simp at h2
  exact ⟨h.trans (hb.mono h.size), by omega⟩
theorem row_call {w w1 : World} (a b : Obj) (hb : Below ((w.alloc a).alloc b).heap.size ((w.alloc a).alloc b) w1) : w1.heap[w.heap.size]? = some a ∧ w1.heap[w.heap.size + 1]? = some b :=
  ⟨(hb.block _ (by simp; omega)).trans (heap_alloc2_old w a b), (hb.block _ (by simp)).trans (heap_alloc2_new w a b)⟩
theorem row_alloc {W : World} {g : Nat} {x : Obj} (h : W.heap[g]? = some x) (o : Obj) : (W.alloc o).heap[g]? = some x := (heap_alloc_old W o (elt_of_row h)).trans h
theorem rcount_gen (s : ByteArray) (o : Nat) (er m : Int) (n o' : Nat) (e' : Int) (hn : n < 18446744073709551616) (hm : m < 9223372036854775808) (he : e' ≠ 0 → n = 0)
    (huint : ∀ W : World, Calls Tryd.prog 62 #[.agg #[.string s, .int .i64 (o : Int), .int .i64 er]] W fun r w' => r = .returned (.tuple #[.agg #[.string s, .int .i64 (o' : Int), .int .i64 e'], .int .u64 (n : Int)]) ∧ Below W.heap.size W w') (w : World) :
    Calls Tryd.prog 64 #[.agg #[.string s, .int .i64 (o : Int), .int .i64 er], .int .i64 m] w fun r w' =>
      (if e' = 0 ∧ (m < 0 ∨ m < (n : Int)) then r = .returned (.tuple #[.agg #[.string s, .int .i64 (o : Int), .int .i64 3], .int .i64 0]) else r = .returned (.tuple #[.agg #[.string s, .int .i64 (o' : Int), .int .i64 e'], .int .i64 (n : Int)])) ∧ Below w.heap.size w w' := by
  by_cases hc : e' = 0 ∧ (m < 0 ∨ m < (n : Int))
  · simp only [if_pos hc]
    obtain ⟨rfl, hc⟩ := hc
    clear he
    by_cases hm0 : m < 0
    · clear hc
      go_enter Tryd.func64, Tryd.ntmps64
      go_wp2_with fail
      refine (huint _).mono ?_
      rintro e w1 ⟨rfl, hb1⟩
      obtain ⟨hB, hS⟩ := below_call _ _ hb1
      obtain ⟨r1, r2⟩ := row_call _ _ hb1
      obtain ⟨⟨c0, c1, c2⟩, f0, f1, f2⟩ := row3 (row_alloc r1 (.cells #[.string s, .int .i64 (o' : Int), .int .i64 0] 91))
      clear hb1 huint
      go_wp2_with fail
      refine (with_any _ _ _ _ _).mono ?_
      rintro e w2 ⟨rfl, hb2⟩
      obtain ⟨⟨d0, d1, d2⟩, g0, g1, g2⟩ := row3 ((hb2.block _ (elt_of_row (row_alloc r2 _))).trans (row_alloc r2 _))
      go_wp2
      exact bodyPost_ret (v := .tuple #[.agg #[.string s, .int .i64 (o : Int), .int .i64 3], .int .i64 0]) (by simp [results, Tryd.results64, go_sem, d0, d1, d2]) rfl ⟨rfl, below_set3 ((hB.alloc hB.size _).trans (hb2.mono (hB.alloc hB.size _).size)) (Nat.le_succ _) _ _ _⟩
    · have hw : IntKind.u64.wrap m = m := by rw [IntKind.wrap_u64]; omega
      have hg : m < (n : Int) := by omega
      clear hc
      go_enter Tryd.func64, Tryd.ntmps64
      go_wp2_with fail
      refine (huint _).mono ?_
      rintro e w1 ⟨rfl, hb1⟩
      obtain ⟨hB, hS⟩ := below_call _ _ hb1
      obtain ⟨r1, r2⟩ := row_call _ _ hb1
      obtain ⟨⟨c0, c1, c2⟩, f0, f1, f2⟩ := row3 (row_alloc r1 (.cells #[.string s, .int .i64 (o' : Int), .int .i64 0] 91))
      clear hb1 huint
      go_wp2_with fail
      refine (with_any _ _ _ _ _).mono ?_
      rintro e w2 ⟨rfl, hb2⟩
      obtain ⟨⟨d0, d1, d2⟩, g0, g1, g2⟩ := row3 ((hb2.block _ (elt_of_row (row_alloc r2 _))).trans (row_alloc r2 _))
      go_wp2
      exact bodyPost_ret (v := .tuple #[.agg #[.string s, .int .i64 (o : Int), .int .i64 3], .int .i64 0]) (by simp [results, Tryd.results64, go_sem, d0, d1, d2]) rfl ⟨rfl, below_set3 ((hB.alloc hB.size _).trans (hb2.mono (hB.alloc hB.size _).size)) (Nat.le_succ _) _ _ _⟩
  · simp only [if_neg hc]
    by_cases he0 : e' = 0
    · subst he0
      have hm0 : ¬ m < 0 := fun h => hc ⟨rfl, Or.inl h⟩
      have hg : ¬ m < (n : Int) := fun h => hc ⟨rfl, Or.inr h⟩
      have hw : IntKind.u64.wrap m = m := by rw [IntKind.wrap_u64]; omega
      have hw2 : IntKind.i64.wrap (n : Int) = (n : Int) := by rw [IntKind.wrap_i64]; omega
      clear hc he
      go_enter Tryd.func64, Tryd.ntmps64
      go_wp2_with fail
      refine (huint _).mono ?_
      rintro e w1 ⟨rfl, hb1⟩
      obtain ⟨hB, hS⟩ := below_call _ _ hb1
      obtain ⟨r1, r2⟩ := row_call _ _ hb1
      obtain ⟨⟨c0, c1, c2⟩, f0, f1, f2⟩ := row3 (row_alloc r2 (.cells #[.string s, .int .i64 (o' : Int), .int .i64 0] 91))
      clear hb1 huint
      go_wp2
      exact bodyPost_ret (v := .tuple #[.agg #[.string s, .int .i64 (o' : Int), .int .i64 0], .int .i64 (n : Int)]) (by simp [results, Tryd.results64, go_sem, c0, c1, c2]) rfl ⟨rfl, below_set3 (hB.alloc hB.size _) (Nat.le_succ _) _ _ _⟩
    · obtain rfl := he he0
      clear hc he
      go_enter Tryd.func64, Tryd.ntmps64
      go_wp2_with fail
      refine (huint _).mono ?_
      rintro e w1 ⟨rfl, hb1⟩
      obtain ⟨hB, hS⟩ := below_call _ _ hb1
      obtain ⟨r1, r2⟩ := row_call _ _ hb1
      obtain ⟨⟨c0, c1, c2⟩, f0, f1, f2⟩ := row3 (row_alloc r2 (.cells #[.string s, .int .i64 (o' : Int), .int .i64 e'] 91))
      clear hb1 huint
      go_wp2
      exact bodyPost_ret (v := .tuple #[.agg #[.string s, .int .i64 (o' : Int), .int .i64 e'], .int .i64 0]) (by simp [results, Tryd.results64, go_sem, c0, c1, c2]) rfl ⟨rfl, below_set3 (hB.alloc hB.size _) (Nat.le_succ _) _ _ _⟩
theorem rcount_at (s : ByteArray) (o : Nat) (er m : Int) (ho : o ≤ s.size) (hs : s.size ≤ 72057594037927936) (hm : m < 9223372036854775808) (w : World) :
    Calls Tryd.prog 64 #[.agg #[.string s, .int .i64 (o : Int), .int .i64 er], .int .i64 m] w fun r w' => r = .returned (.tuple #[.agg #[.string s, .int .i64 ((countA s o er m).o : Int), .int .i64 (countA s o er m).e], .int .i64 ((countA s o er m).v : Int)]) ∧ Below w.heap.size w w' := by
  have hlt := uintA_lt (er := er) ho
  have hue : (uintA s o er).e ≠ 0 → (uintA s o er).v = 0 := by
    unfold uintA
    by_cases h0 : er = 0
    · rw [if_pos h0]; exact fun h => (tkA_err h).1
    · rw [if_neg h0]; exact fun _ => rfl
  refine (rcount_gen s o er m _ _ _ hlt hm hue (fun W => ruint_at s o er ho hs W) w).mono ?_
  rintro r w' ⟨hr, hb⟩
  refine ⟨?_, hb⟩
  by_cases h0 : er = 0
  · subst h0
    have hA : uintA s o 0 = ⟨(tkA s o).n, o + (tkA s o).sz, (tkA s o).er⟩ := if_pos rfl
    have hC : countA s o 0 m = ⟨(cnt (tkA s o) m).n, o + (cnt (tkA s o) m).sz, (cnt (tkA s o) m).er⟩ := if_pos rfl
    rw [hA] at hr
    rw [hC]
    unfold cnt
    by_cases hc : (tkA s o).er = 0 ∧ (m < 0 ∨ m < ((tkA s o).n : Int))
    · rw [if_pos hc] at hr ⊢
      exact hr
    · rw [if_neg hc] at hr ⊢
      exact hr
  · have hA : uintA s o er = ⟨0, o, er⟩ := if_neg h0
    have hC : countA s o er m = ⟨0, o, er⟩ := if_neg h0
    rw [hA, if_neg (fun h => h0 h.1)] at hr
    rw [hC]
    exact hr
end Go.Proofs.YtaocbkloafhmeaaDoor
namespace Go.Proofs.YtaocbkloafhmeaaDoor
open Go.RowKit
set_option maxHeartbeats 1000000 in
theorem rbytes_err (s : ByteArray) (o er n : Int) (h0 : er ≠ 0) (w : World) :
    Calls Tryd.prog 65 #[.agg #[.string s, .int .i64 o, .int .i64 er], .int .i64 n] w fun r w' => r = .returned (.tuple #[.agg #[.string s, .int .i64 o, .int .i64 er], .string ⟨#[]⟩]) ∧ Below w.heap.size w w' := by
  go_enter Tryd.func65, Tryd.ntmps65
  go_wp2
  exact bodyPost_ret (v := .tuple #[.agg #[.string s, .int .i64 o, .int .i64 er], .string ⟨#[]⟩]) (by simp [results, Tryd.results65, go_sem]) rfl ⟨rfl, below_two _ _ _⟩
set_option maxHeartbeats 1000000 in
theorem rbytes_bad (s : ByteArray) (o n : Int) (hn : n < 0) (w : World) :
    Calls Tryd.prog 65 #[.agg #[.string s, .int .i64 o, .int .i64 0], .int .i64 n] w fun r w' => r = .returned (.tuple #[.agg #[.string s, .int .i64 o, .int .i64 1], .string ⟨#[]⟩]) ∧ Below w.heap.size w w' := by
  go_enter Tryd.func65, Tryd.ntmps65
  go_wp2_with fail
  refine (with_any _ _ _ _ _).mono ?_
  rintro e w1 ⟨rfl, hb1⟩
  obtain ⟨hB, hS⟩ := below_call _ _ hb1
  obtain ⟨r1, r2⟩ := row_call _ _ hb1
  obtain ⟨⟨c0, c1, c2⟩, f0, f1, f2⟩ := row3 r2
  go_wp2
  exact bodyPost_ret (v := .tuple #[.agg #[.string s, .int .i64 o, .int .i64 1], .string ⟨#[]⟩]) (by simp [results, Tryd.results65, go_sem, c0, c1, c2]) rfl ⟨rfl, below_set3 hB (Nat.le_succ _) _ _ _⟩
set_option maxHeartbeats 1000000 in
theorem rbytes_short (s : ByteArray) (o : Nat) (n : Int) (ho : o ≤ s.size) (hs : s.size ≤ 72057594037927936) (hn0 : ¬ n < 0) (hn : (s.size : Int) - (o : Int) < n) (w : World) :
    Calls Tryd.prog 65 #[.agg #[.string s, .int .i64 (o : Int), .int .i64 0], .int .i64 n] w fun r w' => r = .returned (.tuple #[.agg #[.string s, .int .i64 (o : Int), .int .i64 4], .string ⟨#[]⟩]) ∧ Below w.heap.size w w' := by
  have hw : IntKind.i64.wrap ((s.size : Int) - (o : Int)) = (s.size : Int) - (o : Int) := by rw [IntKind.wrap_i64]; omega
  go_enter Tryd.func65, Tryd.ntmps65
  go_wp2_with fail
  refine (with_any _ _ _ _ _).mono ?_
  rintro e w1 ⟨rfl, hb1⟩
  obtain ⟨hB, hS⟩ := below_call _ _ hb1
  obtain ⟨r1, r2⟩ := row_call _ _ hb1
  obtain ⟨⟨c0, c1, c2⟩, f0, f1, f2⟩ := row3 r2
  go_wp2
  exact bodyPost_ret (v := .tuple #[.agg #[.string s, .int .i64 (o : Int), .int .i64 4], .string ⟨#[]⟩]) (by simp [results, Tryd.results65, go_sem, c0, c1, c2]) rfl ⟨rfl, below_set3 hB (Nat.le_succ _) _ _ _⟩
set_option maxHeartbeats 1000000 in
theorem rbytes_ok (s : ByteArray) (o n : Nat) (hs : s.size ≤ 72057594037927936) (hn : o + n ≤ s.size) (w : World) :
    Calls Tryd.prog 65 #[.agg #[.string s, .int .i64 (o : Int), .int .i64 0], .int .i64 (n : Int)] w fun r w' => r = .returned (.tuple #[.agg #[.string s, .int .i64 ((o + n : Nat) : Int), .int .i64 0], .string (s.extract o (o + n))]) ∧ Below w.heap.size w w' := by
  have hw : IntKind.i64.wrap ((s.size : Int) - (o : Int)) = (s.size : Int) - (o : Int) := by rw [IntKind.wrap_i64]; omega
  have hw2 : IntKind.i64.wrap ((o : Int) + (n : Int)) = (o : Int) + (n : Int) := by rw [IntKind.wrap_i64]; omega
  have h0 : ¬ (n : Int) < 0 := by omega
  have h1 : ¬ (s.size : Int) - (o : Int) < (n : Int) := by omega
  have h2 : (0 : Int) ≤ (o : Int) := by omega
  have h3 : (o : Int) ≤ (o : Int) + (n : Int) := by omega
  have h4 : (o : Int) + (n : Int) ≤ (s.size : Int) := by omega
  go_enter Tryd.func65, Tryd.ntmps65
  go_wp2_with fail
  go_region
  go_wp2
  exact bodyPost_ret (v := .tuple #[.agg #[.string s, .int .i64 ((o : Int) + (n : Int)), .int .i64 0], .string (s.extract o (o + n))]) (by simp [results, Tryd.results65, go_sem]) rfl ⟨by simp, (below_two _ _ _).drew⟩
theorem rbytes_at (s : ByteArray) (o : Nat) (er n : Int) (ho : o ≤ s.size) (hs : s.size ≤ 72057594037927936) (w : World) :
    Calls Tryd.prog 65 #[.agg #[.string s, .int .i64 (o : Int), .int .i64 er], .int .i64 n] w fun r w' => r = .returned (.tuple #[.agg #[.string s, .int .i64 ((bytesA s o er n).o : Int), .int .i64 (bytesA s o er n).e], .string (bytesA s o er n).v]) ∧ Below w.heap.size w w' := by
  by_cases h0 : er = 0
  · subst h0
    by_cases h1 : n < 0
    · have hA : bytesA s o 0 n = ⟨⟨#[]⟩, o, 1⟩ := by unfold bytesA; rw [if_pos rfl, if_pos h1]
      rw [hA]
      exact rbytes_bad s o n h1 w
    · by_cases h2 : (s.size : Int) - (o : Int) < n
      · have hA : bytesA s o 0 n = ⟨⟨#[]⟩, o, 4⟩ := by unfold bytesA; rw [if_pos rfl, if_neg h1, if_pos h2]
        rw [hA]
        exact rbytes_short s o n ho hs h1 h2 w
      · have hA : bytesA s o 0 n = ⟨s.extract o (o + n.toNat), o + n.toNat, 0⟩ := by unfold bytesA; rw [if_pos rfl, if_neg h1, if_neg h2]
        rw [hA]
        have := rbytes_ok s o n.toNat hs (by omega) w
        rw [Int.toNat_of_nonneg (by omega : 0 ≤ n)] at this
        exact this
  · have hA : bytesA s o er n = ⟨⟨#[]⟩, o, er⟩ := if_neg h0
    rw [hA]
    exact rbytes_err s o er n h0 w
set_option maxHeartbeats 1000000 in
theorem rend_at (s : ByteArray) (o : Nat) (er : Int) (w : World) :
    Calls Tryd.prog 66 #[.agg #[.string s, .int .i64 (o : Int), .int .i64 er]] w fun r w' => r = .returned (.agg #[.string s, .int .i64 (o : Int), .int .i64 (if er = 0 ∧ o < s.size then 5 else er)]) ∧ Below w.heap.size w w' := by
  by_cases h0 : er = 0
  · subst h0
    by_cases h1 : o < s.size
    · have h1' : (o : Int) < (s.size : Int) := by omega
      rw [if_pos ⟨rfl, h1⟩]
      go_enter Tryd.func66, Tryd.ntmps66
      go_wp2_with fail
      refine (with_any _ _ _ _ _).mono ?_
      rintro e w1 ⟨rfl, hb1⟩
      obtain ⟨hB, hS⟩ := below_call _ _ hb1
      obtain ⟨r1, r2⟩ := row_call _ _ hb1
      obtain ⟨⟨c0, c1, c2⟩, f0, f1, f2⟩ := row3 r2
      go_wp2
      exact bodyPost_ret (v := .agg #[.string s, .int .i64 (o : Int), .int .i64 5]) (by simp [results, Tryd.results66, go_sem, c0, c1, c2]) rfl ⟨rfl, below_set3 hB (Nat.le_succ _) _ _ _⟩
    · have h1' : ¬ (o : Int) < (s.size : Int) := by omega
      rw [if_neg (fun h => h1 h.2)]
      go_enter Tryd.func66, Tryd.ntmps66
      go_wp2
      exact bodyPost_ret (v := .agg #[.string s, .int .i64 (o : Int), .int .i64 0]) (by simp [results, Tryd.results66, go_sem]) rfl ⟨rfl, below_two _ _ _⟩
  · rw [if_neg (fun h => h0 h.1)]
    go_enter Tryd.func66, Tryd.ntmps66
    go_wp2
    exact bodyPost_ret (v := .agg #[.string s, .int .i64 (o : Int), .int .i64 er]) (by simp [results, Tryd.results66, go_sem]) rfl ⟨rfl, below_two _ _ _⟩
end Go.Proofs.YtaocbkloafhmeaaDoor
namespace Go.Proofs.YtaocbkloafhmeaaDoor
open Go.RowKit
theorem one_eq (x : UInt8) : ((⟨#[x]⟩ : ByteArray).toList == [1]) = ((x.toNat : Int) == 1) := by
  rw [Lib.toList_data]
  show ([x] == [1]) = _
  by_cases h : x = 1
  · subst h; rfl
  · have h1 : ([x] : List UInt8) ≠ [1] := fun e => h (List.cons.inj e).1
    have h2 : (x.toNat : Int) ≠ 1 := fun e => h (UInt8.toNat_inj.mp (by show x.toNat = 1; omega))
    rw [beq_eq_false_iff_ne.mpr h1, beq_eq_false_iff_ne.mpr h2]
set_option maxHeartbeats 1000000 in
theorem rtext_with (s : ByteArray) (o : Nat) (m M o1 e1 n o2 e2 : Int) (y : ByteArray) (hM : M = min m 1048576) (h2 : e2 ≠ 0)
    (hco : ∀ W : World, Calls Tryd.prog 64 #[.agg #[.string s, .int .i64 (o : Int), .int .i64 0], .int .i64 M] W fun r w' => r = .returned (.tuple #[.agg #[.string s, .int .i64 o1, .int .i64 e1], .int .i64 n]) ∧ Below W.heap.size W w')
    (hby : ∀ W : World, Calls Tryd.prog 65 #[.agg #[.string s, .int .i64 o1, .int .i64 e1], .int .i64 n] W fun r w' => r = .returned (.tuple #[.agg #[.string s, .int .i64 o2, .int .i64 e2], .string y]) ∧ Below W.heap.size W w') (w : World) :
    Calls Tryd.prog 63 #[.agg #[.string s, .int .i64 (o : Int), .int .i64 0], .int .i64 m] w fun r w' => r = .returned (.tuple #[.agg #[.string s, .int .i64 (o : Int), .int .i64 e2], .string ⟨#[]⟩]) ∧ Below w.heap.size w w' := by
  have hb2' : (e2 == 0) = false := beq_eq_false_iff_ne.mpr h2
  by_cases hm : 1048576 < m
  · obtain rfl : M = 1048576 := by omega
    clear hM
    go_enter Tryd.func63, Tryd.ntmps63
    go_wp2_with fail
    refine (hco _).mono ?_
    rintro e w1 ⟨rfl, hb1⟩
    obtain ⟨hB, hS⟩ := below_call _ _ hb1
    obtain ⟨r1, r2⟩ := row_call _ _ hb1
    go_wp2_with fail
    refine (hby _).mono ?_
    rintro e w2 ⟨rfl, hb2⟩
    have hB1 := hB.alloc hB.size (.cells #[.string s, .int .i64 o1, .int .i64 e1] 91)
    have hB2 := hB1.trans (hb2.mono hB1.size)
    have q1 := (hb2.block _ (elt_of_row (row_alloc r1 _))).trans (row_alloc r1 _)
    have q2 := (hb2.block _ (elt_of_row (row_alloc r2 _))).trans (row_alloc r2 _)
    obtain ⟨⟨c0, c1, c2⟩, f0, f1, f2⟩ := row3 (row_alloc q1 (.cells #[.string s, .int .i64 o2, .int .i64 e2] 91))
    obtain ⟨⟨k0, k1, k2⟩, j0, j1, j2⟩ := row3 (row_alloc q2 (.cells #[.string s, .int .i64 o2, .int .i64 e2] 91))
    go_wp2_with fail
    refine (with_any _ _ _ _ _).mono ?_
    rintro e w3 ⟨rfl, hb3⟩
    have hB3 := hB2.alloc hB2.size (.cells #[.string s, .int .i64 o2, .int .i64 e2] 91)
    obtain ⟨⟨d0, d1, d2⟩, g0, g1, g2⟩ := row3 ((hb3.block _ (elt_of_row (row_alloc q2 _))).trans (row_alloc q2 _))
    clear c0 c1 c2 f0 f1 f2 k0 k1 k2 j0 j1 j2
    go_wp2
    exact bodyPost_ret (v := .tuple #[.agg #[.string s, .int .i64 (o : Int), .int .i64 e2], .string ⟨#[]⟩]) (by simp [results, Tryd.results63, go_sem, d0, d1, d2]) rfl ⟨rfl, below_set3 (hB3.trans (hb3.mono hB3.size)) (Nat.le_succ _) _ _ _⟩
  · obtain rfl : M = m := by omega
    clear hM
    go_enter Tryd.func63, Tryd.ntmps63
    go_wp2_with fail
    refine (hco _).mono ?_
    rintro e w1 ⟨rfl, hb1⟩
    obtain ⟨hB, hS⟩ := below_call _ _ hb1
    obtain ⟨r1, r2⟩ := row_call _ _ hb1
    go_wp2_with fail
    refine (hby _).mono ?_
    rintro e w2 ⟨rfl, hb2⟩
    have hB1 := hB.alloc hB.size (.cells #[.string s, .int .i64 o1, .int .i64 e1] 91)
    have hB2 := hB1.trans (hb2.mono hB1.size)
    have q1 := (hb2.block _ (elt_of_row (row_alloc r1 _))).trans (row_alloc r1 _)
    have q2 := (hb2.block _ (elt_of_row (row_alloc r2 _))).trans (row_alloc r2 _)
    obtain ⟨⟨c0, c1, c2⟩, f0, f1, f2⟩ := row3 (row_alloc q1 (.cells #[.string s, .int .i64 o2, .int .i64 e2] 91))
    obtain ⟨⟨k0, k1, k2⟩, j0, j1, j2⟩ := row3 (row_alloc q2 (.cells #[.string s, .int .i64 o2, .int .i64 e2] 91))
    go_wp2_with fail
    refine (with_any _ _ _ _ _).mono ?_
    rintro e w3 ⟨rfl, hb3⟩
    have hB3 := hB2.alloc hB2.size (.cells #[.string s, .int .i64 o2, .int .i64 e2] 91)
    obtain ⟨⟨d0, d1, d2⟩, g0, g1, g2⟩ := row3 ((hb3.block _ (elt_of_row (row_alloc q2 _))).trans (row_alloc q2 _))
    clear c0 c1 c2 f0 f1 f2 k0 k1 k2 j0 j1 j2
    go_wp2
    exact bodyPost_ret (v := .tuple #[.agg #[.string s, .int .i64 (o : Int), .int .i64 e2], .string ⟨#[]⟩]) (by simp [results, Tryd.results63, go_sem, d0, d1, d2]) rfl ⟨rfl, below_set3 (hB3.trans (hb3.mono hB3.size)) (Nat.le_succ _) _ _ _⟩
set_option maxHeartbeats 1000000 in
theorem rtext_err (s : ByteArray) (o : Nat) (er m M o1 e1 n o2 e2 : Int) (y : ByteArray) (hM : M = min m 1048576) (h0 : er ≠ 0) (h2 : e2 ≠ 0)
    (hco : ∀ W : World, Calls Tryd.prog 64 #[.agg #[.string s, .int .i64 (o : Int), .int .i64 er], .int .i64 M] W fun r w' => r = .returned (.tuple #[.agg #[.string s, .int .i64 o1, .int .i64 e1], .int .i64 n]) ∧ Below W.heap.size W w')
    (hby : ∀ W : World, Calls Tryd.prog 65 #[.agg #[.string s, .int .i64 o1, .int .i64 e1], .int .i64 n] W fun r w' => r = .returned (.tuple #[.agg #[.string s, .int .i64 o2, .int .i64 e2], .string y]) ∧ Below W.heap.size W w') (w : World) :
    Calls Tryd.prog 63 #[.agg #[.string s, .int .i64 (o : Int), .int .i64 er], .int .i64 m] w fun r w' => r = .returned (.tuple #[.agg #[.string s, .int .i64 o2, .int .i64 e2], .string y]) ∧ Below w.heap.size w w' := by
  have hb2' : (e2 == 0) = false := beq_eq_false_iff_ne.mpr h2
  have hb0 : (er == 0) = false := beq_eq_false_iff_ne.mpr h0
  by_cases hm : 1048576 < m
  · obtain rfl : M = 1048576 := by omega
    clear hM
    go_enter Tryd.func63, Tryd.ntmps63
    go_wp2_with fail
    refine (hco _).mono ?_
    rintro e w1 ⟨rfl, hb1⟩
    obtain ⟨hB, hS⟩ := below_call _ _ hb1
    obtain ⟨r1, r2⟩ := row_call _ _ hb1
    go_wp2_with fail
    refine (hby _).mono ?_
    rintro e w2 ⟨rfl, hb2⟩
    have hB1 := hB.alloc hB.size (.cells #[.string s, .int .i64 o1, .int .i64 e1] 91)
    have hB2 := hB1.trans (hb2.mono hB1.size)
    have q1 := (hb2.block _ (elt_of_row (row_alloc r1 _))).trans (row_alloc r1 _)
    have q2 := (hb2.block _ (elt_of_row (row_alloc r2 _))).trans (row_alloc r2 _)
    obtain ⟨⟨c0, c1, c2⟩, f0, f1, f2⟩ := row3 (row_alloc q1 (.cells #[.string s, .int .i64 o2, .int .i64 e2] 91))
    obtain ⟨⟨k0, k1, k2⟩, j0, j1, j2⟩ := row3 (row_alloc q2 (.cells #[.string s, .int .i64 o2, .int .i64 e2] 91))
    go_wp2
    exact bodyPost_ret (v := .tuple #[.agg #[.string s, .int .i64 o2, .int .i64 e2], .string y]) (by simp [results, Tryd.results63, go_sem, k0, k1, k2]) rfl ⟨rfl, below_set3 (hB2.alloc hB2.size _) (Nat.le_succ _) _ _ _⟩
  · obtain rfl : M = m := by omega
    clear hM
    go_enter Tryd.func63, Tryd.ntmps63
    go_wp2_with fail
    refine (hco _).mono ?_
    rintro e w1 ⟨rfl, hb1⟩
    obtain ⟨hB, hS⟩ := below_call _ _ hb1
    obtain ⟨r1, r2⟩ := row_call _ _ hb1
    go_wp2_with fail
    refine (hby _).mono ?_
    rintro e w2 ⟨rfl, hb2⟩
    have hB1 := hB.alloc hB.size (.cells #[.string s, .int .i64 o1, .int .i64 e1] 91)
    have hB2 := hB1.trans (hb2.mono hB1.size)
    have q1 := (hb2.block _ (elt_of_row (row_alloc r1 _))).trans (row_alloc r1 _)
    have q2 := (hb2.block _ (elt_of_row (row_alloc r2 _))).trans (row_alloc r2 _)
    obtain ⟨⟨c0, c1, c2⟩, f0, f1, f2⟩ := row3 (row_alloc q1 (.cells #[.string s, .int .i64 o2, .int .i64 e2] 91))
    obtain ⟨⟨k0, k1, k2⟩, j0, j1, j2⟩ := row3 (row_alloc q2 (.cells #[.string s, .int .i64 o2, .int .i64 e2] 91))
    go_wp2
    exact bodyPost_ret (v := .tuple #[.agg #[.string s, .int .i64 o2, .int .i64 e2], .string y]) (by simp [results, Tryd.results63, go_sem, k0, k1, k2]) rfl ⟨rfl, below_set3 (hB2.alloc hB2.size _) (Nat.le_succ _) _ _ _⟩
set_option maxHeartbeats 1000000 in
theorem rtext_ok (s : ByteArray) (o : Nat) (er m M o1 e1 n o2 : Int) (y : ByteArray) (hM : M = min m 1048576) 
    (hco : ∀ W : World, Calls Tryd.prog 64 #[.agg #[.string s, .int .i64 (o : Int), .int .i64 er], .int .i64 M] W fun r w' => r = .returned (.tuple #[.agg #[.string s, .int .i64 o1, .int .i64 e1], .int .i64 n]) ∧ Below W.heap.size W w')
    (hby : ∀ W : World, Calls Tryd.prog 65 #[.agg #[.string s, .int .i64 o1, .int .i64 e1], .int .i64 n] W fun r w' => r = .returned (.tuple #[.agg #[.string s, .int .i64 o2, .int .i64 0], .string y]) ∧ Below W.heap.size W w') (w : World) :
    Calls Tryd.prog 63 #[.agg #[.string s, .int .i64 (o : Int), .int .i64 er], .int .i64 m] w fun r w' => r = .returned (.tuple #[.agg #[.string s, .int .i64 o2, .int .i64 0], .string y]) ∧ Below w.heap.size w w' := by
  by_cases hm : 1048576 < m
  · obtain rfl : M = 1048576 := by omega
    clear hM
    go_enter Tryd.func63, Tryd.ntmps63
    go_wp2_with fail
    refine (hco _).mono ?_
    rintro e w1 ⟨rfl, hb1⟩
    obtain ⟨hB, hS⟩ := below_call _ _ hb1
    obtain ⟨r1, r2⟩ := row_call _ _ hb1
    go_wp2_with fail
    refine (hby _).mono ?_
    rintro e w2 ⟨rfl, hb2⟩
    have hB1 := hB.alloc hB.size (.cells #[.string s, .int .i64 o1, .int .i64 e1] 91)
    have hB2 := hB1.trans (hb2.mono hB1.size)
    have q1 := (hb2.block _ (elt_of_row (row_alloc r1 _))).trans (row_alloc r1 _)
    have q2 := (hb2.block _ (elt_of_row (row_alloc r2 _))).trans (row_alloc r2 _)
    obtain ⟨⟨c0, c1, c2⟩, f0, f1, f2⟩ := row3 (row_alloc q1 (.cells #[.string s, .int .i64 o2, .int .i64 0] 91))
    obtain ⟨⟨k0, k1, k2⟩, j0, j1, j2⟩ := row3 (row_alloc q2 (.cells #[.string s, .int .i64 o2, .int .i64 0] 91))
    go_wp2
    exact bodyPost_ret (v := .tuple #[.agg #[.string s, .int .i64 o2, .int .i64 0], .string y]) (by simp [results, Tryd.results63, go_sem, k0, k1, k2]) rfl ⟨rfl, below_set3 (hB2.alloc hB2.size _) (Nat.le_succ _) _ _ _⟩
  · obtain rfl : M = m := by omega
    clear hM
    go_enter Tryd.func63, Tryd.ntmps63
    go_wp2_with fail
    refine (hco _).mono ?_
    rintro e w1 ⟨rfl, hb1⟩
    obtain ⟨hB, hS⟩ := below_call _ _ hb1
    obtain ⟨r1, r2⟩ := row_call _ _ hb1
    go_wp2_with fail
    refine (hby _).mono ?_
    rintro e w2 ⟨rfl, hb2⟩
    have hB1 := hB.alloc hB.size (.cells #[.string s, .int .i64 o1, .int .i64 e1] 91)
    have hB2 := hB1.trans (hb2.mono hB1.size)
    have q1 := (hb2.block _ (elt_of_row (row_alloc r1 _))).trans (row_alloc r1 _)
    have q2 := (hb2.block _ (elt_of_row (row_alloc r2 _))).trans (row_alloc r2 _)
    obtain ⟨⟨c0, c1, c2⟩, f0, f1, f2⟩ := row3 (row_alloc q1 (.cells #[.string s, .int .i64 o2, .int .i64 0] 91))
    obtain ⟨⟨k0, k1, k2⟩, j0, j1, j2⟩ := row3 (row_alloc q2 (.cells #[.string s, .int .i64 o2, .int .i64 0] 91))
    go_wp2
    exact bodyPost_ret (v := .tuple #[.agg #[.string s, .int .i64 o2, .int .i64 0], .string y]) (by simp [results, Tryd.results63, go_sem, k0, k1, k2]) rfl ⟨rfl, below_set3 (hB2.alloc hB2.size _) (Nat.le_succ _) _ _ _⟩
end Go.Proofs.YtaocbkloafhmeaaDoor
namespace Go.Proofs.YtaocbkloafhmeaaDoor
open Go.RowKit
theorem rtext_at (s : ByteArray) (o : Nat) (er m : Int) (ho : o ≤ s.size) (hs : s.size ≤ 72057594037927936) (w : World) :
    Calls Tryd.prog 63 #[.agg #[.string s, .int .i64 (o : Int), .int .i64 er], .int .i64 m] w fun r w' => r = .returned (.tuple #[.agg #[.string s, .int .i64 ((textA s o er m).o : Int), .int .i64 (textA s o er m).e], .string (textA s o er m).v]) ∧ Below w.heap.size w w' := by
  have hco := fun W => rcount_at s o er (min m 1048576) ho hs (by omega) W
  by_cases h0 : er = 0
  · subst h0
    have hTe := cnt_err (m := min m 1048576) (tkA_err (s := s) (o := o))
    have hsz := (cnt_sz (T := tkA s o) (m := min m 1048576)).1
    have hbd := (tkA_bound ho).2.1
    obtain ⟨C, hC⟩ : ∃ C, cnt (tkA s o) (min m 1048576) = C := ⟨_, rfl⟩
    rw [hC] at hTe hsz
    have hCA : countA s o 0 (min m 1048576) = ⟨C.n, o + C.sz, C.er⟩ := by unfold countA; rw [if_pos rfl, hC]
    rw [hCA] at hco
    have hby := fun W => rbytes_at s (o + C.sz) C.er (C.n : Int) (by omega) hs W
    by_cases h1 : C.er = 0
    · rw [h1] at hco hby
      by_cases h2 : s.size < o + C.sz + C.n
      · have hA : textA s o 0 m = ⟨⟨#[]⟩, o, 4⟩ := by unfold textA; rw [hC, if_pos rfl, if_pos h1, if_pos h2]
        have hB : bytesA s (o + C.sz) 0 (C.n : Int) = ⟨⟨#[]⟩, o + C.sz, 4⟩ := by unfold bytesA; rw [if_pos rfl, if_neg (by omega), if_pos (by omega)]
        rw [hA]
        rw [hB] at hby
        exact rtext_with s o m _ _ _ _ _ _ _ rfl (by show (4 : Int) ≠ 0; decide) hco hby w
      · have hA : textA s o 0 m = ⟨s.extract (o + C.sz) (o + C.sz + C.n), o + C.sz + C.n, 0⟩ := by unfold textA; rw [hC, if_pos rfl, if_pos h1, if_neg h2]
        have hB : bytesA s (o + C.sz) 0 (C.n : Int) = ⟨s.extract (o + C.sz) (o + C.sz + C.n), o + C.sz + C.n, 0⟩ := by unfold bytesA; rw [if_pos rfl, if_neg (by omega), if_neg (by omega), Int.toNat_natCast]
        rw [hA]
        rw [hB] at hby
        exact rtext_ok s o 0 m _ _ _ _ _ _ rfl hco hby w
    · have hA : textA s o 0 m = ⟨⟨#[]⟩, o, C.er⟩ := by unfold textA; rw [hC, if_pos rfl, if_neg h1]
      have hB : bytesA s (o + C.sz) C.er (C.n : Int) = ⟨⟨#[]⟩, o + C.sz, C.er⟩ := if_neg h1
      rw [hA]
      rw [hB] at hby
      exact rtext_with s o m _ _ _ _ _ _ _ rfl h1 hco hby w
  · have hA : textA s o er m = ⟨⟨#[]⟩, o, er⟩ := if_neg h0
    have hCA : countA s o er (min m 1048576) = ⟨0, o, er⟩ := if_neg h0
    have hby := fun W => rbytes_at s o er 0 ho hs W
    have hB : bytesA s o er 0 = ⟨⟨#[]⟩, o, er⟩ := if_neg h0
    rw [hA]
    rw [hCA] at hco
    rw [hB] at hby
    exact rtext_err s o er m _ _ _ _ _ _ _ rfl h0 h0 hco hby w
end Go.Proofs.YtaocbkloafhmeaaDoor
