/- How many nodes stand one below the other: deep of nodes with kids, and of any depth. -/
import Derived.Test.YtiplmlalhmldbaaDee
import Derived.Test.YtiplmlalhmldbaaJoi
namespace Go.Proofs.Ytiplmlalhmldbaa
open Go.RowKit Go.Shelf
set_option maxRecDepth 100000 in
set_option maxHeartbeats 8000000 in
theorem deep_inner {h : Nat} (l : Nat) (xs : List Im) (ts : List (Nd h)) (hl : l ≤ xs.length) (hx0 : 0 < xs.length) (h7 : xs.length ≤ 7) (hts : ts.length = xs.length + 1) (hh : h ≤ 1000)
    (hrec : ∀ W kv i, i < ts.length → Lies W h (ts.getD i (dflt h)) kv → Calls Try.prog 28 #[kv, .int .i64 3] W fun e w' => e = .returned (.int .i64 ((h : Int) + 1)) ∧ Below W.heap.size W w')
    (p : Option Addr) (c : Nat) (q : Option Addr) (d : Nat) (w : World) (L : List Value) (hQ : Sl w q ts.length d L) (hL : LiesL w h ts L) :
    Calls Try.prog 28 #[.agg #[.slice p xs.length c, .slice q ts.length d], .int .i64 (l : Int)] w fun e w' => e = .returned (.int .i64 ((h : Int) + 1 + 1)) ∧ Below w.heap.size w w' := by
  obtain ⟨qb, qo, rfl, hqb, hqc⟩ := hQ.lies (by omega)
  have hcap := hQ.cap
  have hmx : maxLen = 9223372036854775807 := rfl
  have hkid : ∀ W, Below w.heap.size w W → ∀ i, i < ts.length → ∃ kp kn kc kq km kd, W.cell? ⟨qb, qo + i * 2, none⟩ = some (.slice kp kn kc) ∧ W.cell? ⟨qb, qo + i * 2 + 1, none⟩ = some (.slice kq km kd) ∧
      ∀ W2, Below W.heap.size W W2 → Calls Try.prog 28 #[.agg #[.slice kp kn kc, .slice kq km kd], .int .i64 3] W2 fun e w' => e = .returned (.int .i64 ((h : Int) + 1)) ∧ Below W2.heap.size W2 w' := by
    intro W hb i hi
    obtain ⟨kp, kc, kq, kd, x0, x1, hkL⟩ := kid_row (b := qb) (o := qo) hL hqc hi
    exact ⟨kp, _, kc, kq, _, kd, (cell_later hb hqb).trans x0, (cell_later hb hqb).trans x1, fun W2 hb2 => hrec W2 _ i hi (hkL.later (hb.trans (hb2.mono hb.size)))⟩
  obtain ⟨n, hn⟩ : ∃ n, xs.length = n := ⟨_, rfl⟩
  obtain ⟨m, hm⟩ : ∃ m, ts.length = m := ⟨_, rfl⟩
  rw [hn] at hl hx0 h7 hts ⊢
  rw [hm] at hts hkid hcap ⊢
  obtain ⟨w1, hw1⟩ : ∃ w1, w.alloc (.cells #[.slice p n c, .slice (some ⟨qb, qo, none⟩) m d] 59) = w1 := ⟨_, rfl⟩
  have hb1 : Below w.heap.size w w1 := by rw [← hw1]; exact (Below.refl _ w).alloc (Nat.le_refl _) _
  have r0 : w1.heap[w.heap.size]? = some (.cells #[.slice p n c, .slice (some ⟨qb, qo, none⟩) m d] 59 (0, 0)) := by rw [← hw1]; exact heap_alloc_new _ _
  have a0 := cell_of_row w1 _ 0 _ _ _ r0
  have a1 := cell_of_row w1 _ 1 _ _ _ r0
  have kl := fun W => leaf_any p n c (some ⟨qb, qo, none⟩) m d W
  have hm0 : ¬ m = 0 := by omega
  rw [decide_eq_false hm0] at kl
  have hx1 : ¬ (n : Int) < (l : Int) := by omega
  have hx2 : ¬ (7 : Int) < (n : Int) := by omega
  have hx3 : decide ((n : Int) < (l : Int)) = false := decide_eq_false hx1
  have hx4 : decide ((7 : Int) < (n : Int)) = false := decide_eq_false hx2
  have HMN : Hid (m = n + 1) := hts
  have HK : Hid (∀ W, Below w.heap.size w W → ∀ i, i < m → ∃ kp kn kc kq km kd, W.cell? ⟨qb, qo + i * 2, none⟩ = some (.slice kp kn kc) ∧ W.cell? ⟨qb, qo + i * 2 + 1, none⟩ = some (.slice kq km kd) ∧
      ∀ W2, Below W.heap.size W W2 → Calls Try.prog 28 #[.agg #[.slice kp kn kc, .slice kq km kd], .int .i64 3] W2 fun e w' => e = .returned (.int .i64 ((h : Int) + 1)) ∧ Below W2.heap.size W2 w') := hkid
  have hmi : (m : Int) = (n : Int) + 1 := by omega
  have HMI : Hid ((m : Int) = (n : Int) + 1) := hmi
  have h0m : (0 : Int) < (m : Int) := by omega
  clear hts hQ hL hrec hqc hkid hn hm hmi hm0
  go_enter Try.func28, Try.ntmps28
  go_wp2_with fail
  refine (kl _).mono ?_
  rintro e w2 ⟨rfl, hb2⟩
  have hB2 : Below w.heap.size w w2 := hb1.trans (hb2.mono hb1.size)
  have t0 := (hb2.block _ (lt_of_row r0)).trans r0
  have c0 := cell_of_row w2 _ 0 _ _ _ t0
  have c1 := cell_of_row w2 _ 1 _ _ _ t0
  obtain ⟨kp, kn, kc, kq, km, kd, x0, x1, hk⟩ := HK.out w2 hB2 0 (by omega)
  have hwn : wrap64 ((n : Int) + 1) = (m : Int) := by have := HMI.out; unfold wrap64; omega
  have hwn2 : (n : Int) + 1 = (m : Int) := HMI.out.symm
  rw [show qo + 0 * 2 = qo by omega] at x0 x1
  clear hw1 a0 a1 r0 hb1 hb2 kl
  go_wp2_with fail
  refine (hk w2 (Below.refl _ _)).mono ?_
  rintro e w3 ⟨rfl, hb3⟩
  have hB3 : Below w.heap.size w w3 := hB2.trans (hb3.mono hB2.size)
  replace t0 := (hb3.block _ (lt_of_row t0)).trans t0
  replace c1 := cell_of_row w3 _ 1 _ _ _ t0
  have hdm : ¬ d = 1 := by have := HMN.out; omega
  have hd1 : (1 : Int) ≤ (d : Int) := by omega
  have h1m : (1 : Int) ≤ (m : Int) := by omega
  clear x0 x1 hk c0 hb3 hB2 hwn hwn2
  go_wp2
  go_loopw [38] (fun s38 wr => ∃ i : Nat, s38 = .int .i64 (i : Int) ∧ i ≤ m - 1 ∧ Below w.heap.size w wr) (fun s38 _ => m - (intOf s38).toNat)
  case atStart => exact ⟨0, rfl, Nat.zero_le _, hB3⟩
  case round =>
    obtain ⟨i, rfl, hi, hB⟩ := hrel
    by_cases hlt : i < m - 1
    · obtain ⟨kp, kn, kc, kq, km, kd, x0, x1, hk⟩ := HK.out wr hB (i + 1) (by omega)
      rw [show qo + (i + 1) * 2 = qo + 2 + i * 2 by omega] at x0 x1
      have hi1 : (i : Int) < ((m - 1 : Nat) : Int) := by omega
      obtain ⟨w5, hw5⟩ : ∃ w5, wr.alloc (.cells #[.slice kp kn kc, .slice kq km kd] 59) = w5 := ⟨_, rfl⟩
      have hb5 : Below wr.heap.size wr w5 := by rw [← hw5]; exact (Below.refl _ wr).alloc (Nat.le_refl _) _
      have r5 : w5.heap[wr.heap.size]? = some (.cells #[.slice kp kn kc, .slice kq km kd] 59 (0, 0)) := by rw [← hw5]; exact heap_alloc_new _ _
      have y0 := cell_of_row w5 _ 0 _ _ _ r5
      have y1 := cell_of_row w5 _ 1 _ _ _ r5
      go_wp2_with fail
      refine (hk w5 hb5).mono ?_
      rintro e w6 ⟨rfl, hb6⟩
      have hB6 : Below w.heap.size w w6 := hB.trans ((hb5.trans (hb6.mono hb5.size)).mono hB.size)
      clear x0 x1 hk hw5 y0 y1 r5 hb5 hb6
      go_wp2
      go_roundw
      case rel => exact ⟨i + 1, by rw [Int.natCast_succ], by omega, hB6⟩
      case measure => simp [intOf]; omega
    · obtain rfl : i = m - 1 := by omega
      have hne : ¬ ((h : Int) + 1 = 0) := by omega
      have hwh : wrap64 ((h : Int) + 1 + 1) = (h : Int) + 1 + 1 := by unfold wrap64; omega
      go_wp2
      go_ret
      exact ⟨rfl, hB⟩
theorem deep_wd : ∀ {h : Nat} {t : Nd h} {l : Nat}, Wd h l t → h ≤ 1000 → ∀ {v : Value} {w : World}, Lies w h t v →
    Calls Try.prog 28 #[v, .int .i64 (l : Int)] w fun e w' => e = .returned (.int .i64 ((h : Int) + 1)) ∧ Below w.heap.size w w'
  | 0, t, l, hw, _, v, w, H => deep_leaf l t hw v w H
  | h + 1, t, l, hw, hh, v, w, H => by
    obtain ⟨p, c, q, d, L, rfl, hS, hQ, hL⟩ := H.open
    obtain ⟨h1, h2, h3, h4, h5⟩ := hw
    have key := deep_inner l t.1 t.2 h1 h3 h2 h4 (by omega) (fun W kv i hi hkv => deep_wd (h5 i hi) (by omega) hkv) p c q d w L hQ hL
    rw [show ((h + 1 : Nat) : Int) = (h : Int) + 1 by omega]
    exact key
end Go.Proofs.Ytiplmlalhmldbaa
