/- Values between which there is nothing in the order are the same, and have the same bytes; others have others: plain facts. -/
import Derived.Test.YtjmjlijmeahmfaaOrd
namespace Go.Proofs.Ytjmjlijmeahmfaa
open Go.RowKit
structure Fm (k : Int) (b : Bool) (n : Int) (s : ByteArray) (m q : Nat) : Prop where
  b : k ≠ 1 → b = false
  n : k ≠ 2 → n = 0
  s : k ≠ 3 → k ≠ 4 → s = ⟨#[]⟩
  m : k ≠ 5 → k ≠ 6 → m = 0
  q : k ≠ 6 → q = 0
theorem fm_of {k : Int} {b : Bool} {n : Int} {s : ByteArray} {m q : Nat} (h : formedB k b n s m q = true) : Fm k b n s m q := by
  unfold formedB at h
  simp only [Bool.and_eq_true, Bool.or_eq_true, decide_eq_true_eq, Bool.not_eq_true'] at h
  obtain ⟨⟨⟨⟨⟨⟨_, _⟩, hb⟩, hn⟩, hs⟩, hm⟩, hq⟩ := h
  refine ⟨fun h1 => ?_, fun h1 => ?_, fun h1 h2 => ?_, fun h1 h2 => ?_, fun h1 => ?_⟩
  · rcases hb with e | e
    · exact absurd e h1
    · exact e
  · rcases hn with e | e
    · exact absurd e h1
    · exact e
  · rcases hs with (e | e) | e
    · exact absurd e h1
    · exact absurd e h2
    · rw [empty_size] at e
      have := of_decide_eq_true e
      apply ByteArray.ext
      apply Array.toList_inj.mp
      rw [Lib.size_eq] at this
      exact List.length_eq_zero_iff.mp this
  · rcases hm with (e | e) | e
    · exact absurd e h1
    · exact absurd e h2
    · omega
  · rcases hq with e | e
    · exact absurd e h1
    · omega
theorem str_of {a b : ByteArray} (h : cmpB a b = 0) : a = b := by
  apply ByteArray.ext
  apply Array.toList_inj.mp
  exact cmpB_zero h
theorem cmpI_zero {a b : Int} (h : cmpI a b = 0) : a = b := by
  unfold cmpI at h
  by_cases h1 : a < b
  · rw [if_pos h1] at h; cases h
  · rw [if_neg h1] at h
    by_cases h2 : b < a
    · rw [if_pos h2] at h; cases h
    · omega
theorem eqv_of_zero (t : Tr) : ∀ u (d1 d2 : Int), real t → real u → soundT t d1 = 0 → soundT u d2 = 0 → cmpT t u = 0 → eqvT t u := by
  induction t with
  | no => exact fun _ _ _ h => h.elim
  | mk k b n s m f q g ih =>
    intro u d1 d2 ht hu s1 s2 h
    obtain ⟨k', b', n', s', m', f', q', g', rfl⟩ := hu.mk
    have P1 := soundP s1
    have P2 := soundP s2
    have F1 := fm_of P1.fm
    have F2 := fm_of P2.fm
    rw [cmpT] at h
    replace h : (if k = k' then (if k = 1 then cmpB (boolB b) (boolB b') else if k = 2 then cmpI n n' else if k = 3 ∨ k = 4 then cmpB s s' else if k = 5 ∨ k = 6 then (if fe (min m m') (cmpF q q' g g' (fun i => cmpT (f i) (f' i))) = 0 then cmpI m m' else fe (min m m') (cmpF q q' g g' (fun i => cmpT (f i) (f' i)))) else 0) else cmpI k k') = 0 := h
    have hk : k = k' := by
      by_cases e : k = k'
      · exact e
      · rw [if_neg e] at h; exact cmpI_zero h
    subst hk
    rw [if_pos rfl] at h
    have hb : b' = b := by
      by_cases k1 : k = 1
      · rw [if_pos k1] at h
        have := str_of h
        cases b <;> cases b' <;> first | rfl | (exfalso; revert this; decide)
      · rw [F1.b k1, F2.b k1]
    have hn : n' = n := by
      by_cases k2 : k = 2
      · rw [if_neg (by omega), if_pos k2] at h
        exact (cmpI_zero h).symm
      · rw [F1.n k2, F2.n k2]
    have hs : s' = s := by
      by_cases k3 : k = 3 ∨ k = 4
      · rw [if_neg (by omega), if_neg (by omega), if_pos k3] at h
        exact (str_of h).symm
      · rw [F1.s (by omega) (by omega), F2.s (by omega) (by omega)]
    have hm : m' = m ∧ ∀ i, i < m → cmpF q q' g g' (fun i => cmpT (f i) (f' i)) i = 0 := by
      by_cases k5 : k = 5 ∨ k = 6
      · rw [if_neg (by omega), if_neg (by omega), if_neg (by omega), if_pos k5] at h
        by_cases h0 : fe (min m m') (cmpF q q' g g' (fun i => cmpT (f i) (f' i))) = 0
        · rw [if_pos h0] at h
          have hmm : (m : Int) = m' := cmpI_zero h
          obtain rfl : m' = m := by omega
          refine ⟨rfl, fun i hi => fe_zero h0 i (by omega)⟩
        · rw [if_neg h0] at h; exact absurd h h0
      · have e1 := F1.m (by omega) (by omega)
        have e2 := F2.m (by omega) (by omega)
        exact ⟨by omega, fun i hi => by omega⟩
    obtain ⟨rfl, hz⟩ := hm
    have hq : q' = q := by
      by_cases k6 : k = 6
      · rw [(P1.nm k6).1, (P2.nm k6).1]
      · rw [F1.q k6, F2.q k6]
    subst hq
    refine ⟨by simp, rfl, hb, hn, hs, rfl, rfl, fun i hi => ?_, fun i hi => ?_⟩
    · have hzi := hz i hi
      unfold cmpF at hzi
      by_cases hc : i < min q' q' ∧ (g i).data.toList ≠ (g' i).data.toList
      · rw [if_pos hc] at hzi
        exact absurd (cmpB_zero hzi) hc.2
      · rw [if_neg hc] at hzi
        exact ih i (f' i) (d1 + 1) (d2 + 1) (ht i hi) (hu i hi) (P1.ch i hi) (P2.ch i hi) hzi
    · have hqm : i < m' := by
        by_cases k6 : k = 6
        · rw [← (P1.nm k6).1]; exact hi
        · rw [F1.q k6] at hi; omega
      have hzi := hz i hqm
      unfold cmpF at hzi
      by_cases hc : (g i).data.toList = (g' i).data.toList
      · show g' i = g i
        apply ByteArray.ext
        apply Array.toList_inj.mp
        exact hc.symm
      · rw [if_pos ⟨by omega, hc⟩] at hzi
        exact absurd (cmpB_zero hzi) hc
theorem eqv_both {t u v : Tr} (h1 : eqvT t v) (h2 : eqvT u v) (hu : real u) : eqvT t u := by
  revert u v
  induction t with
  | no => exact fun {_ _} h => h.elim
  | mk k b n s m f q g ih =>
    intro u v h1 h2 hu
    obtain ⟨k', b', n', s', m', f', q', g', rfl⟩ := hu.mk
    obtain ⟨a0, a1, a2, a3, a4, a5, a6, a7, a8⟩ := h1
    obtain ⟨_, c1, c2, c3, c4, c5, c6, c7, c8⟩ := h2
    have hm : m' = m := c5.symm.trans a5
    have hq : q' = q := c6.symm.trans a6
    exact ⟨by simp, c1.symm.trans a1, c2.symm.trans a2, c3.symm.trans a3, c4.symm.trans a4, hm, hq, fun i hi => ih i (a7 i hi) (c7 i (by omega)) (hu i (by omega)), fun i hi => (c8 i (by omega)).symm.trans (a8 i hi)⟩
theorem check_sound {t : Tr} (h : checkT t = 0) : soundT t 1 = 0 := by
  unfold checkT at h
  by_cases h2 : soundT t 1 = 0
  · exact h2
  · rw [if_neg h2] at h; exact absurd h h2
theorem zero_iff {B : Nat} {w : World} {t u : Tr} {x y : Ad} (hL : Lies B w t x) (hL' : Lies B w u y) (h1 : checkT t = 0) (h2 : checkT u = 0) : cmpT t u = 0 ↔ encT t = encT u := by
  constructor
  · intro h
    exact (eqv_enc (eqv_of_zero t u 1 1 (Lies.real t hL) (Lies.real u hL') (check_sound h1) (check_sound h2) h)).symm
  · intro h
    have e1 := (dec_enc hL h1).2.2
    have e2 := (dec_enc hL' h2).2.2
    rw [← h] at e2
    exact eqv_cmp t u (eqv_both e1 e2 (Lies.real u hL'))
end Go.Proofs.Ytjmjlijmeahmfaa
