/- Lists of keys put together: slices.Grow of nothing, slices.Concat, replaced. -/
import Derived.Test.YtiplmlalhmldbaaFnd
import Derived.Lib.AppendZeros
import Derived.Deep.AppendLies
import Derived.OwnWalk
namespace Go.Proofs.Ytiplmlalhmldbaa
open Go.RowKit Go.Shelf
theorem info66 : (Try.prog.info? 66).map (fun i => (i.zero, i.size, i.bytes)) = some (some (.agg #[.string ⟨#[]⟩, .string ⟨#[]⟩]), 2, 32) := by kernel_rfl
theorem append_empty66 (W : World) {base n : Nat} {xs : List Value} {v : Value} (h : W.ownsRow base 66 2 v n xs) (p : Option Addr) (c : Nat) : (Builtin.append_ #[56, 56] 56 #[v, .slice p 0 c]).run Try.prog W = .ok v W := by
  rcases h.2 with ⟨rfl, rfl⟩ | ⟨g, cap, cur, rfl, _, _, hc, _, _, _⟩
  · cases p <;> simp [Builtin.append_, go_sem, Builtin.lenOf, Builtin.firstCells]
  · cases p <;> simp [Builtin.append_, go_sem, Builtin.lenOf, Builtin.firstCells, hc]
set_option maxHeartbeats 2000000 in
theorem grow66 (n : Nat) (hn : n ≤ 100000) (w : World) : Calls Try.prog 48 #[.slice none 0 0, .int .i64 (n : Int)] w fun e w' => ∃ v, e = .returned v ∧ w'.ownsRow w.heap.size 66 2 v 0 [] ∧ Below w.heap.size w w' := by
  by_cases h0 : n = 0
  · subst h0
    go_enter Try.func48, Try.ntmps48
    go_wp2
    go_ret
    exact ⟨_, rfl, World.ownsRow_nil _ _ _ _, Below.refl _ _⟩
  · obtain ⟨i0, hi, hz0, hz1, hz2⟩ := info_parts info66
    have hr := fun ty => Lib.run_append_nil_zeros (P := Try.prog) w 56 3 ty 66 i0 _ .i64 .i64 Try.underlying56 Try.underlying3 hi hz0 n (by omega) (by omega) (by omega) (by rw [hz2]; omega)
    have hge := grownCap_ge w n 0 66
    have hle := grownCap_le_maxLen w n 0 66 (by unfold maxLen; omega)
    obtain ⟨cp, hcp⟩ : ∃ cp, grownCap w n 0 66 = cp := ⟨_, rfl⟩
    have hr56 := hr 56
    rw [hcp] at hr56 hge hle
    obtain ⟨cs, hcs⟩ : ∃ cs, Builtin.zeroCells (Value.cells (.agg #[.string ⟨#[]⟩, .string ⟨#[]⟩])) n ++ Builtin.zeroCells (Value.cells (.agg #[.string ⟨#[]⟩, .string ⟨#[]⟩])) (cp - n) = cs := ⟨_, rfl⟩
    have hsz : cs.size = cp * 2 := by
      rw [← hcs, Array.size_append, size_zeroCells, size_zeroCells]
      simp only [Value.cells]
      simp
      omega
    rw [hcs] at hr56
    have hm : (w.drew.alloc (.cells cs 66)).ownsRow w.heap.size 66 2 (.slice (some ⟨w.heap.size, 0, none⟩) 0 cp) 0 [] := World.ownsRow_made w.drew cs cp (Nat.le_refl _) hle hsz
    have hmx : maxLen = 9223372036854775807 := rfl
    have HH : Hid (n ≤ cp ∧ cp ≤ maxLen) := ⟨hge, hle⟩
    clear hr hcs hsz hcp
    go_enter Try.func48, Try.ntmps48
    go_wp2_with (at_builtin; refine Lib.wpList_append_run _ rfl _ _ _ _ rfl _ _ rfl rfl _ _ hr56 ?_)
    go_ret
    exact ⟨_, rfl, hm, ((Below.refl _ w).alloc (Nat.le_refl _) _).drew⟩
/- Lists that are put together. -/
structure Sq where
  p : Option Addr
  n : Nat
  c : Nat
  L : List Value
def catL (F : Nat → Sq) : Nat → List Value
  | 0 => []
  | i + 1 => catL F i ++ (F i).L
def catN (F : Nat → Sq) : Nat → Nat
  | 0 => 0
  | i + 1 => catN F i + (F i).n
theorem catN_le {F : Nat → Sq} {k : Nat} (h : ∀ i, i < k → (F i).n ≤ 100) : ∀ i, i ≤ k → catN F i ≤ 100 * i
  | 0, _ => Nat.le_refl _
  | i + 1, hi => by
    have h1 := catN_le h i (by omega)
    have h2 := h i (by omega)
    unfold catN
    omega
theorem lt_of_row {W : World} {g : Nat} {o : Obj} (h1 : W.heap[g]? = some o) : g < W.heap.size := by
  rcases Nat.lt_or_ge g W.heap.size with h | h
  · exact h
  · rw [Array.getElem?_eq_none h] at h1; cases h1
theorem Sl.of_own {w : World} {base T n : Nat} {v : Value} {L : List Value} (h : w.ownsRow base T 2 v n L) (h1 : ∀ u ∈ L, u.oneCell' = true) : ∃ p c, v = .slice p n c ∧ Sl w p n c L := by
  have hl := h.1
  rcases h.2 with ⟨rfl, rfl⟩ | ⟨g, cap, cur, rfl, _, hg, hc, hm, hs, ht⟩
  · refine ⟨none, 0, rfl, ⟨⟨Nat.le_refl _, Nat.zero_le _⟩, hl, h1, fun h => absurd h (by omega)⟩⟩
  · refine ⟨some ⟨g, 0, none⟩, cap, rfl, ⟨⟨hc, hm⟩, hl, h1, fun _ => ⟨g, 0, rfl, lt_of_row hg, fun j u hu => ?_⟩⟩⟩
    rw [cell_of_row w g _ _ _ _ hg, Nat.zero_add]
    rw [← ht, List.getElem?_take] at hu
    split at hu
    · simpa using hu
    · cases hu
set_option maxRecDepth 100000 in
set_option maxHeartbeats 4000000 in
theorem concat66 (F : Nat → Sq) (k : Nat) (hk : k ≤ 3) (hn : ∀ i, i < k → (F i).n ≤ 100) (B c : Nat) (hc : k ≤ c) (w : World) (hB : B < w.heap.size)
    (hF : ∀ i, i < k → w.cell? ⟨B, i, none⟩ = some (.slice (F i).p (F i).n (F i).c) ∧ Sl w (F i).p (F i).n (F i).c (F i).L) :
    Calls Try.prog 43 #[.slice (some ⟨B, 0, none⟩) k c] w fun e w' => ∃ p c, e = .returned (.slice p (catN F k) c) ∧ Sl w' p (catN F k) c (catL F k) ∧ Below w.heap.size w w' := by
  have hN : Hid (∀ i, i ≤ k → catN F i ≤ 100 * i) := catN_le hn
  have hmx : maxLen = 9223372036854775807 := rfl
  obtain ⟨i0, hi0, hz0, hz1, hz2⟩ := info_parts info66
  have HN : Hid (∀ i, i < k → (F i).n ≤ 100) := hn
  have HF : Hid (∀ i, i < k → w.cell? ⟨B, i, none⟩ = some (.slice (F i).p (F i).n (F i).c) ∧ Sl w (F i).p (F i).n (F i).c (F i).L) := hF
  clear hn hF
  go_enter Try.func43, Try.ntmps43
  go_wp2
  go_loopw [3, 5, 11] (fun v3 _ vi wr => ∃ i : Nat, i ≤ k ∧ vi = .int .i64 (i : Int) ∧ v3 = .int .i64 (catN F i : Int) ∧ wr = w) (fun _ _ vi _ => k - (intOf vi).toNat)
  case atStart => exact ⟨0, Nat.zero_le _, rfl, rfl, rfl⟩
  case round =>
    obtain ⟨i, hik, rfl, rfl, hw⟩ := hrel
    have hw' := hw.symm
    subst hw'
    have hNi := hN.out i hik
    by_cases hlt : i < k
    · have hlt' : (i : Int) < (k : Int) := by omega
      have hc1 := (HF.out i hlt).1
      have hNs := hN.out (i + 1) hlt
      have hu : catN F (i + 1) = catN F i + (F i).n := rfl
      have hni := HN.out i hlt
      obtain ⟨a, ha⟩ : ∃ a, catN F i = a := ⟨_, rfl⟩
      obtain ⟨b, hb⟩ : ∃ b, F i = b := ⟨_, rfl⟩
      have HA : Hid (catN F (i + 1) = a + b.n) := by rw [← ha, ← hb]; exact hu
      rw [ha] at hNi ⊢
      rw [hb] at hc1 hni
      clear hu ha hb
      go_wp2
      go_roundw
      case rel => exact ⟨i + 1, hlt, by simp, by rw [HA.out]; simp, trivial⟩
      case measure => simp [intOf]; omega
    · obtain rfl : i = k := by omega
      have hG := grow66 (catN F i) (by omega) w
      obtain ⟨a, ha⟩ : ∃ a, catN F i = a := ⟨_, rfl⟩
      have HA : Hid (catN F i = a) := ha
      rw [ha] at hG hNi ⊢
      clear ha
      go_wp2_with fail
      refine hG.mono ?_
      rintro e w1 ⟨v, rfl, hown, hb1⟩
      go_wp2
      go_loopw [6, 8, 27] (fun v6 _ vi W => ∃ j : Nat, j ≤ i ∧ vi = .int .i64 (j : Int) ∧ W.ownsRow w.heap.size 66 2 v6 (catN F j) (catL F j) ∧ Below w.heap.size w W) (fun _ _ vi _ => i - (intOf vi).toNat)
      case atStart => exact ⟨0, Nat.zero_le _, rfl, hown, hb1⟩
      case round =>
        obtain ⟨j, hj, rfl, hown2, hB2⟩ := hrel
        by_cases hlt2 : j < i
        · have hlt' : (j : Int) < (i : Int) := by omega
          have hc1 := (cell_later hB2 hB).trans (HF.out j hlt2).1
          have hS := (HF.out j hlt2).2.later hB2
          have hNj := hN.out j hj
          have hni := HN.out j hlt2
          have hlj : catL F (j + 1) = catL F j ++ (F j).L := rfl
          have hnj : catN F (j + 1) = catN F j + (F j).n := rfl
          obtain ⟨⟨bp, bn, bc, bL⟩, hb⟩ : ∃ b, F j = b := ⟨_, rfl⟩
          obtain ⟨x, hx⟩ : ∃ x, catN F j = x := ⟨_, rfl⟩
          obtain ⟨y, hy⟩ : ∃ y, catL F j = y := ⟨_, rfl⟩
          rw [hb] at hc1 hS hni hlj hnj
          rw [hx] at hown2 hnj hNj
          rw [hy] at hown2 hlj
          simp only at hc1 hS hni hlj hnj
          have HL : Hid (catL F (j + 1) = y ++ bL) := hlj
          have HM : Hid (catN F (j + 1) = x + bn) := hnj
          clear hb hx hy hlj hnj
          by_cases h0 : bn = 0
          · subst h0
            have hap := append_empty66 wr hown2 bp bc
            go_wp2_with (at_builtin; refine Lib.wpList_append_run _ rfl _ _ _ _ rfl _ _ rfl rfl _ _ hap ?_)
            have hbL : bL = [] := List.eq_nil_of_length_eq_zero (by simpa using hS.len)
            go_roundw
            case rel => exact ⟨j + 1, hlt2, by simp, by rw [HL.out, HM.out, hbL, List.append_nil]; exact hown2, hB2⟩
            case measure => simp [intOf]; omega
          · obtain ⟨b, o, rfl, hb, hcs⟩ := hS.lies (by omega)
            have hnews : ∀ (t : Nat) (u : Value), bL[t]? = some u → wr.cell? ((⟨b, o, none⟩ : Addr).add t) = some u := fun t u hu => by
              have hadd : (⟨b, o, none⟩ : Addr).add t = ⟨b, o + t, none⟩ := by unfold Addr.add; split <;> simp_all
              rw [hadd]
              exact hcs t u hu
            have hlen := hS.len
            have hone := hS.one
            go_wp2_with (at_builtin; refine wpList_append_lies _ (by rfl) (.tmp 31) (.tmp 32) 56 (by rfl) w.heap.size 66 i0 _ 2 32 Try.underlying56 hi0 hz0 hz1 hz2 (by rfl) (by decide) _ x y (by rfl) hown2 ⟨b, o, none⟩ bn bc bL (by rfl) hlen hnews hone (by omega) (by omega) (by omega) hB2.size _ rfl ?_; intro g6 cap6 w6 hown6 hgr6 hat6 hlt6)
            go_roundw
            case rel => exact ⟨j + 1, hlt2, by simp, by rw [HL.out, HM.out]; exact hown6, hB2.grown hgr6 hB2.size (fun k hk => (hown2.lt k hk).1)⟩
            case measure => simp [intOf]; omega
        · obtain rfl : j = i := by omega
          have h1 : ∀ u ∈ catL F j, u.oneCell' = true := by
            have : ∀ t, t ≤ j → ∀ u ∈ catL F t, u.oneCell' = true := by
              intro t
              induction t with
              | zero => intro _ u hu; cases hu
              | succ t ih =>
                intro ht u hu
                rcases List.mem_append.1 hu with h | h
                · exact ih (by omega) u h
                · exact (HF.out t (by omega)).2.one u h
            exact this j (Nat.le_refl _)
          obtain ⟨p, cc, rfl, hS⟩ := Sl.of_own hown2 h1
          go_wp2
          go_ret
          exact ⟨p, cc, rfl, hS, hB2⟩
end Go.Proofs.Ytiplmlalhmldbaa
