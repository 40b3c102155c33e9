/- Lists put together: slices.Grow of nothing, slices.Concat, of texts and of values. -/
import Derived.Test.YtjmjlijmeahmfaaLsl
import Derived.Lib.AppendZeros
import Derived.Deep.AppendLies
import Derived.OwnWalk
namespace Go.Proofs.Ytjmjlijmeahmfaa
open Go.RowKit
structure Sq where
  p : Option Addr
  n : Nat
  c : Nat
  L : List Value
def catL (F : Nat → Sq) : Nat → List Value
  | 0 => []
  | i + 1 => catL F i ++ (F i).L
def catN (F : Nat → Sq) : Nat → Nat
  | 0 => 0
  | i + 1 => catN F i + (F i).n
theorem catN_le {F : Nat → Sq} {k : Nat} (h : ∀ i, i < k → (F i).n ≤ 100) : ∀ i, i ≤ k → catN F i ≤ 100 * i
  | 0, _ => Nat.le_refl _
  | i + 1, hi => by
    have h1 := catN_le h i (by omega)
    have h2 := h i (by omega)
    unfold catN
    omega
set_option maxRecDepth 100000 in
set_option maxHeartbeats 2000000 in
theorem grow9 (n : Nat) (hn : n ≤ 100000) (w : World) : Calls Try.prog 88 #[.slice none 0 0, .int .i64 (n : Int)] w fun e w' => ∃ v, e = .returned v ∧ w'.ownsRow w.heap.size 9 1 v 0 [] ∧ Below w.heap.size w w' := by
  by_cases h0 : n = 0
  · subst h0
    go_enter Try.func88, Try.ntmps88
    go_wp2
    go_ret
    exact ⟨_, rfl, World.ownsRow_nil _ _ _ _, Below.refl _ _⟩
  · obtain ⟨i0, hi, hz0, hz1, hz2⟩ := info_parts info9
    have hr := fun ty => Lib.run_append_nil_zeros (P := Try.prog) w 23 3 ty 9 i0 _ .i64 .i64 Try.underlying23 Try.underlying3 hi hz0 n (by omega) (by omega) (by omega) (by rw [hz2]; omega)
    have hge := grownCap_ge w n 0 9
    have hle := grownCap_le_maxLen w n 0 9 (by unfold maxLen; omega)
    obtain ⟨cp, hcp⟩ : ∃ cp, grownCap w n 0 9 = cp := ⟨_, rfl⟩
    have hrT := hr 23
    rw [hcp] at hrT hge hle
    obtain ⟨cs, hcs⟩ : ∃ cs, Builtin.zeroCells (Value.cells (.string ⟨#[]⟩)) n ++ Builtin.zeroCells (Value.cells (.string ⟨#[]⟩)) (cp - n) = cs := ⟨_, rfl⟩
    have hsz : cs.size = cp * 1 := by
      rw [← hcs, Array.size_append, size_zeroCells, size_zeroCells]
      simp only [Value.cells]
      simp
      omega
    rw [hcs] at hrT
    have hm : (w.drew.alloc (.cells cs 9)).ownsRow w.heap.size 9 1 (.slice (some ⟨w.heap.size, 0, none⟩) 0 cp) 0 [] := World.ownsRow_made w.drew cs cp (Nat.le_refl _) hle hsz
    have hmx : maxLen = 9223372036854775807 := rfl
    have HH : Hid (n ≤ cp ∧ cp ≤ maxLen) := ⟨hge, hle⟩
    clear hr hcs hsz hcp
    go_enter Try.func88, Try.ntmps88
    go_wp2_with (at_builtin; refine Lib.wpList_append_run _ rfl _ _ _ _ rfl _ _ rfl rfl _ _ hrT ?_)
    go_ret
    exact ⟨_, rfl, hm, ((Below.refl _ w).alloc (Nat.le_refl _) _).drew⟩
set_option maxRecDepth 100000 in
set_option maxHeartbeats 4000000 in
theorem concat9 (F : Nat → Sq) (k : Nat) (hk : k ≤ 3) (hn : ∀ i, i < k → (F i).n ≤ 100) (B c : Nat) (hc : k ≤ c) (w : World) (hB : B < w.heap.size)
    (hF : ∀ i, i < k → w.cell? ⟨B, i, none⟩ = some (.slice (F i).p (F i).n (F i).c) ∧ SlT (fun k => k < w.heap.size) w 1 (F i).p (F i).n (F i).c (F i).L) :
    Calls Try.prog 57 #[.slice (some ⟨B, 0, none⟩) k c] w fun e w' => ∃ p c, e = .returned (.slice p (catN F k) c) ∧ SlT (fun k => w.heap.size ≤ k ∧ k < w'.heap.size) w' 1 p (catN F k) c (catL F k) ∧ Below w.heap.size w w' := by
  have hN : Hid (∀ i, i ≤ k → catN F i ≤ 100 * i) := catN_le hn
  have hmx : maxLen = 9223372036854775807 := rfl
  obtain ⟨i0, hi0, hz0, hz1, hz2⟩ := info_parts info9
  have HN : Hid (∀ i, i < k → (F i).n ≤ 100) := hn
  have HF : Hid (∀ i, i < k → w.cell? ⟨B, i, none⟩ = some (.slice (F i).p (F i).n (F i).c) ∧ SlT (fun k => k < w.heap.size) w 1 (F i).p (F i).n (F i).c (F i).L) := hF
  clear hn hF
  go_enter Try.func57, Try.ntmps57
  go_wp2
  go_loopw [3, 5, 11] (fun v3 _ vi wr => ∃ i : Nat, i ≤ k ∧ vi = .int .i64 (i : Int) ∧ v3 = .int .i64 (catN F i : Int) ∧ wr = w) (fun _ _ vi _ => k - (intOf vi).toNat)
  case atStart => exact ⟨0, Nat.zero_le _, rfl, rfl, rfl⟩
  case round =>
    obtain ⟨i, hik, rfl, rfl, hw⟩ := hrel
    have hw' := hw.symm
    subst hw'
    have hNi := hN.out i hik
    by_cases hlt : i < k
    · have hlt' : (i : Int) < (k : Int) := by omega
      have hc1 := (HF.out i hlt).1
      have hNs := hN.out (i + 1) hlt
      have hu : catN F (i + 1) = catN F i + (F i).n := rfl
      have hni := HN.out i hlt
      obtain ⟨a, ha⟩ : ∃ a, catN F i = a := ⟨_, rfl⟩
      obtain ⟨b, hb⟩ : ∃ b, F i = b := ⟨_, rfl⟩
      have HA : Hid (catN F (i + 1) = a + b.n) := by rw [← ha, ← hb]; exact hu
      rw [ha] at hNi ⊢
      rw [hb] at hc1 hni
      clear hu ha hb
      go_wp2
      go_roundw
      case rel => exact ⟨i + 1, hlt, by simp, by rw [HA.out]; simp, trivial⟩
      case measure => simp [intOf]; omega
    · obtain rfl : i = k := by omega
      have hG := grow9 (catN F i) (by omega) w
      obtain ⟨a, ha⟩ : ∃ a, catN F i = a := ⟨_, rfl⟩
      have HA : Hid (catN F i = a) := ha
      rw [ha] at hG hNi ⊢
      clear ha
      go_wp2_with fail
      refine hG.mono ?_
      rintro e w1 ⟨v, rfl, hown, hb1⟩
      go_wp2
      go_loopw [6, 8, 27] (fun v6 _ vi W => ∃ j : Nat, j ≤ i ∧ vi = .int .i64 (j : Int) ∧ W.ownsRow w.heap.size 9 1 v6 (catN F j) (catL F j) ∧ Below w.heap.size w W) (fun _ _ vi _ => i - (intOf vi).toNat)
      case atStart => exact ⟨0, Nat.zero_le _, rfl, hown, hb1⟩
      case round =>
        obtain ⟨j, hj, rfl, hown2, hB2⟩ := hrel
        by_cases hlt2 : j < i
        · have hlt' : (j : Int) < (i : Int) := by omega
          have hc1 := cell_later (HF.out j hlt2).1 hB hB2
          have hS := (HF.out j hlt2).2.kept (w' := wr) (fun k hk => hB2.block k hk)
          have hNj := hN.out j hj
          have hni := HN.out j hlt2
          have hlj : catL F (j + 1) = catL F j ++ (F j).L := rfl
          have hnj : catN F (j + 1) = catN F j + (F j).n := rfl
          obtain ⟨⟨bp, bn, bc, bL⟩, hb⟩ : ∃ b, F j = b := ⟨_, rfl⟩
          obtain ⟨x, hx⟩ : ∃ x, catN F j = x := ⟨_, rfl⟩
          obtain ⟨y, hy⟩ : ∃ y, catL F j = y := ⟨_, rfl⟩
          rw [hb] at hc1 hS hni hlj hnj
          rw [hx] at hown2 hnj hNj
          rw [hy] at hown2 hlj
          simp only at hc1 hS hni hlj hnj
          have HL : Hid (catL F (j + 1) = y ++ bL) := hlj
          have HM : Hid (catN F (j + 1) = x + bn) := hnj
          clear hb hx hy hlj hnj
          by_cases h0 : bn = 0
          · subst h0
            have hap := append_none23 wr hown2 bp bc
            go_wp2_with (at_builtin; refine Lib.wpList_append_run _ rfl _ _ _ _ rfl _ _ rfl rfl _ _ hap ?_)
            have hbL : bL = [] := List.eq_nil_of_length_eq_zero (by simpa using hS.len)
            go_roundw
            case rel => exact ⟨j + 1, hlt2, by simp, by rw [HL.out, HM.out, hbL, List.append_nil]; exact hown2, hB2⟩
            case measure => simp [intOf]; omega
          · obtain ⟨b, o, rfl, hb, hcs⟩ := hS.lies (by omega)
            have hnews : ∀ (t : Nat) (u : Value), bL[t]? = some u → wr.cell? ((⟨b, o, none⟩ : Addr).add t) = some u := fun t u hu => by
              rw [addr_at]
              exact hcs t u hu
            have hlen := hS.len
            have hone := hS.one
            go_wp2_with (at_builtin; refine wpList_append_lies _ (by rfl) (.tmp 31) (.tmp 32) 23 (by rfl) w.heap.size 9 i0 _ 1 16 Try.underlying23 hi0 hz0 hz1 hz2 (by rfl) (by decide) _ x y (by rfl) hown2 ⟨b, o, none⟩ bn bc bL (by rfl) hlen hnews hone (by omega) (by omega) (by omega) hB2.size _ rfl ?_; intro g6 cap6 w6 hown6 hgr6 hat6 hlt6)
            go_roundw
            case rel => exact ⟨j + 1, hlt2, by simp, by rw [HL.out, HM.out]; exact hown6, hB2.grown hgr6 hB2.size (fun k hk => (hown2.lt k hk).1)⟩
            case measure => simp [intOf]; omega
        · obtain rfl : j = i := by omega
          have h1 : ∀ u ∈ catL F j, u.oneCell' = true := by
            have : ∀ t, t ≤ j → ∀ u ∈ catL F t, u.oneCell' = true := by
              intro t
              induction t with
              | zero => intro _ u hu; cases hu
              | succ t ih =>
                intro ht u hu
                rcases List.mem_append.1 hu with h | h
                · exact ih (by omega) u h
                · exact (HF.out t (by omega)).2.one u h
            exact this j (Nat.le_refl _)
          obtain ⟨p, cc, rfl, hS⟩ := SlT.of_own (S := fun k => w.heap.size ≤ k ∧ k < wr.heap.size) hown2 h1 hown2.lt
          go_wp2
          go_ret
          exact ⟨p, cc, rfl, hS, hB2⟩
set_option maxRecDepth 100000 in
set_option maxHeartbeats 2000000 in
theorem grow25 (n : Nat) (hn : n ≤ 100000) (w : World) : Calls Try.prog 89 #[.slice none 0 0, .int .i64 (n : Int)] w fun e w' => ∃ v, e = .returned v ∧ w'.ownsRow w.heap.size 25 6 v 0 [] ∧ Below w.heap.size w w' := by
  by_cases h0 : n = 0
  · subst h0
    go_enter Try.func89, Try.ntmps89
    go_wp2
    go_ret
    exact ⟨_, rfl, World.ownsRow_nil _ _ _ _, Below.refl _ _⟩
  · obtain ⟨i0, hi, hz0, hz1, hz2⟩ := info_parts info25
    have hr := fun ty => Lib.run_append_nil_zeros (P := Try.prog) w 22 3 ty 25 i0 _ .i64 .i64 Try.underlying22 Try.underlying3 hi hz0 n (by omega) (by omega) (by omega) (by rw [hz2]; omega)
    have hge := grownCap_ge w n 0 25
    have hle := grownCap_le_maxLen w n 0 25 (by unfold maxLen; omega)
    obtain ⟨cp, hcp⟩ : ∃ cp, grownCap w n 0 25 = cp := ⟨_, rfl⟩
    have hrT := hr 22
    rw [hcp] at hrT hge hle
    obtain ⟨cs, hcs⟩ : ∃ cs, Builtin.zeroCells (Value.cells (.agg #[.int .i64 0, .bool false, .int .i64 0, .string ⟨#[]⟩, .slice none 0 0, .slice none 0 0])) n ++ Builtin.zeroCells (Value.cells (.agg #[.int .i64 0, .bool false, .int .i64 0, .string ⟨#[]⟩, .slice none 0 0, .slice none 0 0])) (cp - n) = cs := ⟨_, rfl⟩
    have hsz : cs.size = cp * 6 := by
      rw [← hcs, Array.size_append, size_zeroCells, size_zeroCells]
      simp only [Value.cells]
      simp
      omega
    rw [hcs] at hrT
    have hm : (w.drew.alloc (.cells cs 25)).ownsRow w.heap.size 25 6 (.slice (some ⟨w.heap.size, 0, none⟩) 0 cp) 0 [] := World.ownsRow_made w.drew cs cp (Nat.le_refl _) hle hsz
    have hmx : maxLen = 9223372036854775807 := rfl
    have HH : Hid (n ≤ cp ∧ cp ≤ maxLen) := ⟨hge, hle⟩
    clear hr hcs hsz hcp
    go_enter Try.func89, Try.ntmps89
    go_wp2_with (at_builtin; refine Lib.wpList_append_run _ rfl _ _ _ _ rfl _ _ rfl rfl _ _ hrT ?_)
    go_ret
    exact ⟨_, rfl, hm, ((Below.refl _ w).alloc (Nat.le_refl _) _).drew⟩
set_option maxRecDepth 100000 in
set_option maxHeartbeats 4000000 in
theorem concat25 (F : Nat → Sq) (k : Nat) (hk : k ≤ 3) (hn : ∀ i, i < k → (F i).n ≤ 100) (B c : Nat) (hc : k ≤ c) (w : World) (hB : B < w.heap.size)
    (hF : ∀ i, i < k → w.cell? ⟨B, i, none⟩ = some (.slice (F i).p (F i).n (F i).c) ∧ SlT (fun k => k < w.heap.size) w 6 (F i).p (F i).n (F i).c (F i).L) :
    Calls Try.prog 58 #[.slice (some ⟨B, 0, none⟩) k c] w fun e w' => ∃ p c, e = .returned (.slice p (catN F k) c) ∧ SlT (fun k => w.heap.size ≤ k ∧ k < w'.heap.size) w' 6 p (catN F k) c (catL F k) ∧ Below w.heap.size w w' := by
  have hN : Hid (∀ i, i ≤ k → catN F i ≤ 100 * i) := catN_le hn
  have hmx : maxLen = 9223372036854775807 := rfl
  obtain ⟨i0, hi0, hz0, hz1, hz2⟩ := info_parts info25
  have HN : Hid (∀ i, i < k → (F i).n ≤ 100) := hn
  have HF : Hid (∀ i, i < k → w.cell? ⟨B, i, none⟩ = some (.slice (F i).p (F i).n (F i).c) ∧ SlT (fun k => k < w.heap.size) w 6 (F i).p (F i).n (F i).c (F i).L) := hF
  clear hn hF
  go_enter Try.func58, Try.ntmps58
  go_wp2
  go_loopw [3, 5, 11] (fun v3 _ vi wr => ∃ i : Nat, i ≤ k ∧ vi = .int .i64 (i : Int) ∧ v3 = .int .i64 (catN F i : Int) ∧ wr = w) (fun _ _ vi _ => k - (intOf vi).toNat)
  case atStart => exact ⟨0, Nat.zero_le _, rfl, rfl, rfl⟩
  case round =>
    obtain ⟨i, hik, rfl, rfl, hw⟩ := hrel
    have hw' := hw.symm
    subst hw'
    have hNi := hN.out i hik
    by_cases hlt : i < k
    · have hlt' : (i : Int) < (k : Int) := by omega
      have hc1 := (HF.out i hlt).1
      have hNs := hN.out (i + 1) hlt
      have hu : catN F (i + 1) = catN F i + (F i).n := rfl
      have hni := HN.out i hlt
      obtain ⟨a, ha⟩ : ∃ a, catN F i = a := ⟨_, rfl⟩
      obtain ⟨b, hb⟩ : ∃ b, F i = b := ⟨_, rfl⟩
      have HA : Hid (catN F (i + 1) = a + b.n) := by rw [← ha, ← hb]; exact hu
      rw [ha] at hNi ⊢
      rw [hb] at hc1 hni
      clear hu ha hb
      go_wp2
      go_roundw
      case rel => exact ⟨i + 1, hlt, by simp, by rw [HA.out]; simp, trivial⟩
      case measure => simp [intOf]; omega
    · obtain rfl : i = k := by omega
      have hG := grow25 (catN F i) (by omega) w
      obtain ⟨a, ha⟩ : ∃ a, catN F i = a := ⟨_, rfl⟩
      have HA : Hid (catN F i = a) := ha
      rw [ha] at hG hNi ⊢
      clear ha
      go_wp2_with fail
      refine hG.mono ?_
      rintro e w1 ⟨v, rfl, hown, hb1⟩
      go_wp2
      go_loopw [6, 8, 27] (fun v6 _ vi W => ∃ j : Nat, j ≤ i ∧ vi = .int .i64 (j : Int) ∧ W.ownsRow w.heap.size 25 6 v6 (catN F j) (catL F j) ∧ Below w.heap.size w W) (fun _ _ vi _ => i - (intOf vi).toNat)
      case atStart => exact ⟨0, Nat.zero_le _, rfl, hown, hb1⟩
      case round =>
        obtain ⟨j, hj, rfl, hown2, hB2⟩ := hrel
        by_cases hlt2 : j < i
        · have hlt' : (j : Int) < (i : Int) := by omega
          have hc1 := cell_later (HF.out j hlt2).1 hB hB2
          have hS := (HF.out j hlt2).2.kept (w' := wr) (fun k hk => hB2.block k hk)
          have hNj := hN.out j hj
          have hni := HN.out j hlt2
          have hlj : catL F (j + 1) = catL F j ++ (F j).L := rfl
          have hnj : catN F (j + 1) = catN F j + (F j).n := rfl
          obtain ⟨⟨bp, bn, bc, bL⟩, hb⟩ : ∃ b, F j = b := ⟨_, rfl⟩
          obtain ⟨x, hx⟩ : ∃ x, catN F j = x := ⟨_, rfl⟩
          obtain ⟨y, hy⟩ : ∃ y, catL F j = y := ⟨_, rfl⟩
          rw [hb] at hc1 hS hni hlj hnj
          rw [hx] at hown2 hnj hNj
          rw [hy] at hown2 hlj
          simp only at hc1 hS hni hlj hnj
          have HL : Hid (catL F (j + 1) = y ++ bL) := hlj
          have HM : Hid (catN F (j + 1) = x + bn) := hnj
          clear hb hx hy hlj hnj
          by_cases h0 : bn = 0
          · subst h0
            have hap := append_none22 wr hown2 bp bc
            go_wp2_with (at_builtin; refine Lib.wpList_append_run _ rfl _ _ _ _ rfl _ _ rfl rfl _ _ hap ?_)
            have hbL : bL = [] := List.eq_nil_of_length_eq_zero (by simpa using hS.len)
            go_roundw
            case rel => exact ⟨j + 1, hlt2, by simp, by rw [HL.out, HM.out, hbL, List.append_nil]; exact hown2, hB2⟩
            case measure => simp [intOf]; omega
          · obtain ⟨b, o, rfl, hb, hcs⟩ := hS.lies (by omega)
            have hnews : ∀ (t : Nat) (u : Value), bL[t]? = some u → wr.cell? ((⟨b, o, none⟩ : Addr).add t) = some u := fun t u hu => by
              rw [addr_at]
              exact hcs t u hu
            have hlen := hS.len
            have hone := hS.one
            go_wp2_with (at_builtin; refine wpList_append_lies _ (by rfl) (.tmp 31) (.tmp 32) 22 (by rfl) w.heap.size 25 i0 _ 6 88 Try.underlying22 hi0 hz0 hz1 hz2 (by rfl) (by decide) _ x y (by rfl) hown2 ⟨b, o, none⟩ bn bc bL (by rfl) hlen hnews hone (by omega) (by omega) (by omega) hB2.size _ rfl ?_; intro g6 cap6 w6 hown6 hgr6 hat6 hlt6)
            go_roundw
            case rel => exact ⟨j + 1, hlt2, by simp, by rw [HL.out, HM.out]; exact hown6, hB2.grown hgr6 hB2.size (fun k hk => (hown2.lt k hk).1)⟩
            case measure => simp [intOf]; omega
        · obtain rfl : j = i := by omega
          have h1 : ∀ u ∈ catL F j, u.oneCell' = true := by
            have : ∀ t, t ≤ j → ∀ u ∈ catL F t, u.oneCell' = true := by
              intro t
              induction t with
              | zero => intro _ u hu; cases hu
              | succ t ih =>
                intro ht u hu
                rcases List.mem_append.1 hu with h | h
                · exact ih (by omega) u h
                · exact (HF.out t (by omega)).2.one u h
            exact this j (Nat.le_refl _)
          obtain ⟨p, cc, rfl, hS⟩ := SlT.of_own (S := fun k => w.heap.size ≤ k ∧ k < wr.heap.size) hown2 h1 hown2.lt
          go_wp2
          go_ret
          exact ⟨p, cc, rfl, hS, hB2⟩
end Go.Proofs.Ytjmjlijmeahmfaa
