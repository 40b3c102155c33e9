/- What the words of a text are (no program here): none but the last is the end; numbers say ints. -/
import Derived.Test.YtcniebkehekliaaGreatDoorSel
namespace Go.Proofs.YtcniebkehekliaaGreatDoor
open Go.RowKit Go.Shelf
def NumW (t : List UInt8) : Prop := t ≠ [] ∧ (∀ c ∈ t, digitB (c.toNat : Int) = true) ∧ valL 0 t ≤ 9223372036854775807
theorem fstA_ok {l : List UInt8} {k : Nat} {t : List UInt8} {n : Nat} (h : fstA l = some (k, t, n)) : k ≠ 0 ∧ (k = 3 → NumW t) := by
  cases l with
  | nil => cases h
  | cons c r =>
    rw [fstA] at h
    split at h
    · cases hq : qL (r.drop 1) with
      | none => rw [hq] at h; cases h
      | some x =>
        rw [hq] at h
        cases hx : hexL x.1 with
        | none => simp [hx] at h
        | some u =>
          simp [hx] at h
          obtain ⟨h1, h2, h3⟩ := h
          subst h1
          exact ⟨by decide, fun h => absurd h (by decide)⟩
    · split at h
      · dsimp only at h
        split at h
        · injection h with h; injection h with h1 h
          subst h1
          exact ⟨by decide, fun h => absurd h (by decide)⟩
        · split at h
          · injection h with h; injection h with h1 h
            subst h1
            exact ⟨by decide, fun h => absurd h (by decide)⟩
          · cases h
      · split at h
        · next hin =>
          have hp : 1 ≤ runL digitB (c :: r) := by rw [runL_pos _ _ hin]; omega
          dsimp only at h
          split at h
          · next hn =>
            injection h with h; injection h with h1 h; injection h with h2 h3
            subst h1 h2 h3
            refine ⟨by decide, fun _ => ⟨?_, runL_take digitB (c :: r), ?_⟩⟩
            · intro e
              have := congrArg List.length e
              have hr := runL_le digitB (c :: r)
              rw [List.length_take, List.length_nil] at this
              omega
            · unfold numB at hn
              simp only [Bool.and_eq_true, decide_eq_true_eq] at hn
              exact hn.2
          · cases h
        · split at h
          · cases hq : qL r with
            | none => rw [hq] at h; cases h
            | some x =>
              rw [hq] at h
              injection h with h; injection h with h1 h
              subst h1
              exact ⟨by decide, fun h => absurd h (by decide)⟩
          · split at h
            · cases h
            · injection h with h; injection h with h1 h
              subst h1
              exact ⟨by decide, fun h => absurd h (by decide)⟩
def WdOk (m : Nat) (x : Wd) : Prop := x.k ≠ 0 ∧ x.s.length ≤ m ∧ (x.k = 3 → NumW x.s)
theorem wdsL_ok (m : Nat) : ∀ (f : Nat) (l : List UInt8) (a : Nat), l.length ≤ f → l.length ≤ m → ∀ x ∈ (wdsL l a).1, WdOk m x
  | 0, [], a, _, _ => fun x hx => by rw [wdsL_nil] at hx; cases hx
  | 0, c :: r, _, h, _ => by simp at h
  | f + 1, [], a, _, _ => fun x hx => by rw [wdsL_nil] at hx; cases hx
  | f + 1, c :: r, a, h, hm => by
    simp only [List.length_cons] at h hm
    intro x hx
    by_cases hb : blankB (c.toNat : Int) = true
    · rw [wdsL_blank r a hb] at hx
      exact wdsL_ok m f r (a + 1) (by omega) (by omega) x hx
    · have hb : blankB (c.toNat : Int) = false := by simpa using hb
      cases hf : fstA (c :: r) with
      | none => rw [wdsL_none a hb hf] at hx; cases hx
      | some y =>
        obtain ⟨k, t, n⟩ := y
        have h1 := fstA_le hf
        have h2 := fstA_ok hf
        rw [wdsL_some a hb hf] at hx
        simp only [List.length_cons] at h1
        rcases List.mem_cons.1 hx with rfl | hx
        · exact ⟨h2.1, by simp only; omega, h2.2⟩
        · exact wdsL_ok m f ((c :: r).drop n) (a + n) (by simp only [List.length_drop, List.length_cons]; omega) (by simp only [List.length_drop, List.length_cons]; omega) x hx
theorem p10_digits : ∀ (l : List UInt8) (a : Nat), (∀ c ∈ l, digitB (c.toNat : Int) = true) → valL a l ≤ 9223372036854775807 → Lib.parseUint10 a l = .ok (valL a l)
  | [], _, _, _ => rfl
  | c :: r, a, h, hv => by
    have hc := h c (by simp)
    unfold digitB at hc
    have hc1 : 48 ≤ c.toNat ∧ c.toNat ≤ 57 := by simp at hc; omega
    rw [valL_cons, show stp a c = a * 10 + (c.toNat - 48) from rfl] at hv ⊢
    have hg := valL_ge r (a * 10 + (c.toNat - 48))
    unfold Lib.parseUint10
    rw [if_pos hc1, if_neg (by omega), if_neg (by omega)]
    exact p10_digits r _ (fun d hd => h d (List.mem_cons_of_mem _ hd)) hv
theorem atoi_digits {l : List UInt8} (h : NumW l) : Lib.atoiAll l = .ok (valL 0 l : Int) := by
  obtain ⟨h0, hd, hv⟩ := h
  cases l with
  | nil => exact absurd rfl h0
  | cons c r =>
    have hc := hd c (by simp)
    unfold digitB at hc
    have hc1 : 48 ≤ c.toNat ∧ c.toNat ≤ 57 := by simp at hc; omega
    unfold Lib.atoiAll
    dsimp only
    rw [if_neg (by omega)]
    unfold Lib.parseMag
    rw [if_neg (List.cons_ne_nil c r), p10_digits _ 0 hd hv]
    dsimp only
    have n45 : ¬ c.toNat = 45 := by omega
    simp only [n45, not_false_eq_true, true_and, false_and, if_false]
    rw [if_neg (by omega)]
theorem num_digits {l : List UInt8} (h : NumW l) : Lib.parseIntB 64 l = .ok (valL 0 l : Int) := by
  rw [parse_digits h.1 h.2.1, if_pos h.2.2]
/- The words that were told, and the end. -/
theorem wordsR_form {l : List UInt8} (h : (wordsR l).2.2 = 0) : l.length ≤ 2000 ∧ (wordsR l).1 = (wdsL l 0).1 ++ [⟨0, [], l.length⟩] ∧ (wordsR l).2.1 = 0 := by
  unfold wordsR at h ⊢
  split at h
  · cases h
  · next h1 =>
    rw [if_neg h1]
    split at h
    · exact ⟨by omega, rfl, rfl⟩
    · cases h
theorem wAt_app_left {a : List Wd} {e : Wd} {i : Nat} (h : i < a.length) : wAt (a ++ [e]) i = a[i] := by
  unfold wAt
  rw [List.getD_eq_getElem?_getD, List.getElem?_append_left h, List.getElem?_eq_getElem h]
  rfl
theorem wAt_app_last {a : List Wd} {e : Wd} : wAt (a ++ [e]) a.length = e := by
  unfold wAt
  rw [List.getD_eq_getElem?_getD, List.getElem?_append_right (Nat.le_refl _), Nat.sub_self]
  rfl
theorem wAt_out {a : List Wd} {i : Nat} (h : a.length ≤ i) : wAt a i = ⟨0, [], 0⟩ := by
  unfold wAt
  rw [List.getD_eq_getElem?_getD, List.getElem?_eq_none h]
  rfl
theorem words_ok {l : List UInt8} (h : (wordsR l).2.2 = 0) : Wz (wordsR l).1 ∧ Wl (wordsR l).1 ∧ Wa (wordsR l).1 ∧ 0 < (wordsR l).1.length ∧ (wordsR l).1.length ≤ 2001 := by
  obtain ⟨h1, h2, h3⟩ := wordsR_form h
  have hm := wordsR_many l
  have hok := wdsL_ok 2000 _ l 0 (Nat.le_refl _) h1
  rw [h2] at hm ⊢
  have hlen : ((wdsL l 0).1 ++ [(⟨0, [], l.length⟩ : Wd)]).length = (wdsL l 0).1.length + 1 := by simp
  have hat : ∀ i, i < (wdsL l 0).1.length → WdOk 2000 (wAt ((wdsL l 0).1 ++ [⟨0, [], l.length⟩]) i) := fun i hi => by
    rw [wAt_app_left hi]
    exact hok _ (List.getElem_mem hi)
  have hcase : ∀ i, i < (wdsL l 0).1.length ∨ (wAt ((wdsL l 0).1 ++ [⟨0, [], l.length⟩]) i).k = 0 ∧ (wAt ((wdsL l 0).1 ++ [⟨0, [], l.length⟩]) i).s = [] := by
    intro i
    by_cases hi : i < (wdsL l 0).1.length
    · exact Or.inl hi
    · right
      by_cases hi2 : i = (wdsL l 0).1.length
      · subst hi2
        rw [wAt_app_last]
        exact ⟨rfl, rfl⟩
      · rw [wAt_out (by rw [hlen]; omega)]
        exact ⟨rfl, rfl⟩
  refine ⟨fun i hi => ?_, fun i => ?_, fun i hk => ?_, by omega, by omega⟩
  · rcases hcase i with h4 | h4
    · have h5 := (hat i h4).1
      constructor
      · intro h6; exact absurd h6 h5
      · intro h6; omega
    · constructor
      · intro _
        by_cases h6 : i < (wdsL l 0).1.length
        · exact absurd h4.1 (hat i h6).1
        · omega
      · intro _; exact h4.1
  · rcases hcase i with h4 | h4
    · have h5 := hat i h4
      exact ⟨by have := h5.2.1; omega, fun hk => ⟨_, num_digits (h5.2.2 hk)⟩⟩
    · exact ⟨by rw [h4.2]; simp, fun hk => by rw [h4.1] at hk; cases hk⟩
  · rcases hcase i with h4 | h4
    · exact ⟨_, atoi_digits ((hat i h4).2.2 hk)⟩
    · rw [h4.1] at hk; cases hk
end Go.Proofs.YtcniebkehekliaaGreatDoor
