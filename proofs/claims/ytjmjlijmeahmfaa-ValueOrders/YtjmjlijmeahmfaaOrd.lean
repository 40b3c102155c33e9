/- The order of values is one order: plain facts (turned round, one behind the other, nothing between just where the bytes are the same). -/
import Derived.Test.YtjmjlijmeahmfaaEqv
namespace Go.Proofs.Ytjmjlijmeahmfaa
open Go.RowKit
def tri (x y z : Int) : Prop := x ≤ 0 → y ≤ 0 → (x = 0 ∧ y = 0 → z = 0) ∧ (x < 0 ∨ y < 0 → z < 0)
theorem tri_cmpI (a b c : Int) : tri (cmpI a b) (cmpI b c) (cmpI a c) := by
  unfold tri cmpI
  repeat' split
  all_goals omega
theorem tri_cmpL : ∀ a b c : List UInt8, tri (Lib.compareBytes a b) (Lib.compareBytes b c) (Lib.compareBytes a c)
  | [], [], [] => by show tri 0 0 0; unfold tri; omega
  | [], [], _ :: _ => by show tri 0 (-1) (-1); unfold tri; omega
  | [], _ :: _, [] => by show tri (-1) 1 0; unfold tri; omega
  | [], _ :: _, _ :: _ => by show tri (-1) _ (-1); unfold tri; omega
  | _ :: _, [], _ => by show tri 1 _ _; unfold tri; omega
  | _ :: _, _ :: _, [] => by show tri _ 1 1; unfold tri; omega
  | a :: xs, b :: ys, c :: zs => by
    have ih := tri_cmpL xs ys zs
    unfold tri at ih ⊢
    rw [Lib.compareBytes, Lib.compareBytes, Lib.compareBytes]
    have lt (x y : UInt8) : x < y ↔ x.toNat < y.toNat := UInt8.lt_iff_toNat_lt
    simp only [lt]
    repeat' split
    all_goals (try omega)
theorem anti_cmpI (a b : Int) : cmpI b a = - cmpI a b := by
  unfold cmpI
  repeat' split
  all_goals omega
theorem anti_cmpL : ∀ a b : List UInt8, Lib.compareBytes b a = - Lib.compareBytes a b
  | [], [] => by decide
  | [], _ :: _ => by rfl
  | _ :: _, [] => by rfl
  | a :: xs, b :: ys => by
    have ih := anti_cmpL xs ys
    rw [Lib.compareBytes, Lib.compareBytes]
    have lt (x y : UInt8) : x < y ↔ x.toNat < y.toNat := UInt8.lt_iff_toNat_lt
    simp only [lt]
    repeat' split
    all_goals omega
theorem fe_cases (F : Nat → Int) : ∀ m, (fe m F = 0 ∧ ∀ i, i < m → F i = 0) ∨ ∃ i, i < m ∧ F i ≠ 0 ∧ (∀ j, j < i → F j = 0) ∧ fe m F = F i
  | 0 => Or.inl ⟨rfl, fun i hi => absurd hi (Nat.not_lt_zero i)⟩
  | m + 1 => by
    rcases fe_cases F m with ⟨h1, h2⟩ | ⟨i, h1, h2, h3, h4⟩
    · by_cases h0 : F m = 0
      · left
        refine ⟨by rw [fe, if_pos h1, h0], fun i hi => ?_⟩
        rcases Nat.lt_or_ge i m with k | k
        · exact h2 i k
        · obtain rfl : i = m := by omega
          exact h0
      · right
        exact ⟨m, Nat.lt_succ_self m, h0, h2, by rw [fe, if_pos h1]⟩
    · right
      exact ⟨i, by omega, h2, h3, by rw [fe, if_neg (by rw [h4]; exact h2), h4]⟩
def lexI (m m' : Nat) (F : Nat → Int) : Int := if fe (min m m') F = 0 then cmpI m m' else fe (min m m') F
theorem lex_cases (m m' : Nat) (F : Nat → Int) : (lexI m m' F = cmpI m m' ∧ ∀ i, i < min m m' → F i = 0) ∨ ∃ i, i < min m m' ∧ F i ≠ 0 ∧ (∀ j, j < i → F j = 0) ∧ lexI m m' F = F i := by
  unfold lexI
  rcases fe_cases F (min m m') with ⟨h1, h2⟩ | ⟨i, h1, h2, h3, h4⟩
  · exact Or.inl ⟨by rw [if_pos h1], h2⟩
  · exact Or.inr ⟨i, h1, h2, h3, by rw [if_neg (by rw [h4]; exact h2), h4]⟩
theorem lex_all {m m' : Nat} {F : Nat → Int} (h : ∀ i, i < min m m' → F i = 0) : lexI m m' F = cmpI m m' := by
  unfold lexI
  rw [if_pos (fe_none _ _ h)]
theorem lex_at {m m' : Nat} {F : Nat → Int} {k : Nat} (hk : k < min m m') (h0 : ∀ j, j < k → F j = 0) (h : F k ≠ 0) : lexI m m' F = F k := by
  rcases lex_cases m m' F with ⟨_, h2⟩ | ⟨i, h1, h2, h3, h4⟩
  · exact absurd (h2 k hk) h
  · rcases Nat.lt_trichotomy i k with c | c | c
    · exact absurd (h0 i c) h2
    · rw [← c]; exact h4
    · exact absurd (h3 k c) h
theorem cmpI_le {m m' : Nat} (h : cmpI m m' ≤ 0) : m ≤ m' := by
  unfold cmpI at h
  by_cases h1 : (m : Int) < m'
  · omega
  · rw [if_neg h1] at h
    by_cases h2 : (m' : Int) < m
    · rw [if_pos h2] at h; omega
    · omega
theorem cmpI_lt {m m' : Nat} (h : m < m') : cmpI m m' < 0 := by
  unfold cmpI
  rw [if_pos (by omega)]
  decide
theorem tri_lex {m1 m2 m3 : Nat} {F12 F23 F13 : Nat → Int} (h : ∀ i, i < m1 → i < m2 → i < m3 → tri (F12 i) (F23 i) (F13 i)) : tri (lexI m1 m2 F12) (lexI m2 m3 F23) (lexI m1 m3 F13) := by
  intro hx hy
  rcases lex_cases m1 m2 F12 with ⟨e1, z1⟩ | ⟨i, i1, i2, i3, i4⟩
  · rw [e1] at hx ⊢
    have l1 := cmpI_le hx
    rcases lex_cases m2 m3 F23 with ⟨e2, z2⟩ | ⟨j, j1, j2, j3, j4⟩
    · rw [e2] at hy ⊢
      have l2 := cmpI_le hy
      have hz : ∀ i, i < min m1 m3 → F13 i = 0 := fun i hi => ((h i (by omega) (by omega) (by omega)) (by rw [z1 i (by omega)]; decide) (by rw [z2 i (by omega)]; decide)).1 ⟨z1 i (by omega), z2 i (by omega)⟩
      rw [lex_all hz]
      exact tri_cmpI m1 m2 m3 hx hy
    · rw [j4] at hy ⊢
      have hlt : F23 j < 0 := by omega
      have hz : ∀ i, i < j → i < m1 → F13 i = 0 := fun i hi h1 => ((h i h1 (by omega) (by omega)) (by rw [z1 i (by omega)]; decide) (by rw [j3 i hi]; decide)).1 ⟨z1 i (by omega), j3 i hi⟩
      refine ⟨fun hh => absurd hh.2 j2, fun _ => ?_⟩
      by_cases hj : j < m1
      · have hneg := ((h j hj (by omega) (by omega)) (by rw [z1 j (by omega)]; decide) (by omega)).2 (Or.inr hlt)
        rw [lex_at (k := j) (by omega) (fun i hi => hz i hi (by omega)) (by omega)]
        exact hneg
      · rw [lex_all (fun i hi => hz i (by omega) (by omega))]
        exact cmpI_lt (by omega)
  · rw [i4] at hx ⊢
    have hlt : F12 i < 0 := by omega
    rcases lex_cases m2 m3 F23 with ⟨e2, z2⟩ | ⟨j, j1, j2, j3, j4⟩
    · rw [e2] at hy ⊢
      have l2 := cmpI_le hy
      have hz : ∀ k, k < i → F13 k = 0 := fun k hk => ((h k (by omega) (by omega) (by omega)) (by rw [i3 k hk]; decide) (by rw [z2 k (by omega)]; decide)).1 ⟨i3 k hk, z2 k (by omega)⟩
      have hneg := ((h i (by omega) (by omega) (by omega)) (by omega) (by rw [z2 i (by omega)]; decide)).2 (Or.inl hlt)
      refine ⟨fun hh => absurd hh.1 i2, fun _ => ?_⟩
      rw [lex_at (k := i) (by omega) hz (by omega)]
      exact hneg
    · rw [j4] at hy ⊢
      have hlt2 : F23 j < 0 := by omega
      refine ⟨fun hh => absurd hh.1 i2, fun _ => ?_⟩
      rcases Nat.lt_trichotomy i j with c | c | c
      · have hz : ∀ k, k < i → F13 k = 0 := fun k hk => ((h k (by omega) (by omega) (by omega)) (by rw [i3 k hk]; decide) (by rw [j3 k (by omega)]; decide)).1 ⟨i3 k hk, j3 k (by omega)⟩
        have hneg := ((h i (by omega) (by omega) (by omega)) (by omega) (by rw [j3 i c]; decide)).2 (Or.inl hlt)
        rw [lex_at (k := i) (by omega) hz (by omega)]
        exact hneg
      · subst c
        have hz : ∀ k, k < i → F13 k = 0 := fun k hk => ((h k (by omega) (by omega) (by omega)) (by rw [i3 k hk]; decide) (by rw [j3 k (by omega)]; decide)).1 ⟨i3 k hk, j3 k (by omega)⟩
        have hneg := ((h i (by omega) (by omega) (by omega)) (by omega) (by omega)).2 (Or.inl hlt)
        rw [lex_at (k := i) (by omega) hz (by omega)]
        exact hneg
      · have hz : ∀ k, k < j → F13 k = 0 := fun k hk => ((h k (by omega) (by omega) (by omega)) (by rw [i3 k (by omega)]; decide) (by rw [j3 k hk]; decide)).1 ⟨i3 k (by omega), j3 k hk⟩
        have hneg := ((h j (by omega) (by omega) (by omega)) (by rw [i3 j c]; decide) (by omega)).2 (Or.inr hlt2)
        rw [lex_at (k := j) (by omega) hz (by omega)]
        exact hneg
def real : Tr → Prop
  | .no => False
  | .mk _ _ _ _ m f _ _ => ∀ i, i < m → real (f i)
theorem Lies.real {B : Nat} {w : World} (t : Tr) : ∀ {x : Ad}, Lies B w t x → real t := by
  induction t with
  | no => exact fun h => h.no.elim
  | mk k b n s m f q g ih =>
    intro x h
    obtain ⟨A, _, hr⟩ := h.part
    exact fun i hi => ih i (hr i hi)
theorem real.mk {t : Tr} (h : real t) : ∃ k b n s m f q g, t = .mk k b n s m f q g := by
  cases t with
  | no => exact h.elim
  | mk k b n s m f q g => exact ⟨k, b, n, s, m, f, q, g, rfl⟩
theorem fe_neg (F G : Nat → Int) (h : ∀ i, G i = - F i) : ∀ m, fe m G = - fe m F
  | 0 => rfl
  | m + 1 => by
    rw [fe, fe, fe_neg F G h m, h m]
    by_cases h0 : fe m F = 0
    · rw [if_pos (by omega), if_pos h0]
    · rw [if_neg (by omega), if_neg h0]
theorem fe_negL {F G : Nat → Int} : ∀ {m : Nat}, (∀ i, i < m → G i = - F i) → fe m G = - fe m F
  | 0, _ => rfl
  | m + 1, h => by
    rw [fe, fe, fe_negL (m := m) (fun i hi => h i (by omega)), h m (by omega)]
    by_cases h0 : fe m F = 0
    · rw [if_pos (by omega), if_pos h0]
    · rw [if_neg (by omega), if_neg h0]
theorem cmpF_anti {q uq : Nat} {g ug : Nat → ByteArray} {C D : Nat → Int} {i : Nat} (h : D i = - C i) : cmpF uq q ug g D i = - cmpF q uq g ug C i := by
  unfold cmpF
  by_cases h1 : i < min q uq ∧ (g i).data.toList ≠ (ug i).data.toList
  · rw [if_pos h1, if_pos ⟨by omega, fun e => h1.2 e.symm⟩]
    exact anti_cmpL _ _
  · rw [if_neg h1, if_neg (fun hh => h1 ⟨by omega, fun e => hh.2 e.symm⟩), h]
theorem anti_cmpT (t : Tr) : ∀ u, real t → real u → cmpT u t = - cmpT t u := by
  induction t with
  | no => exact fun _ h => h.elim
  | mk k b n s m f q g ih =>
    intro u ht hu
    obtain ⟨k', b', n', s', m', f', q', g', rfl⟩ := hu.mk
    rw [cmpT, cmpT]
    show (if k' = k then _ else cmpI k' k) = - (if k = k' then _ else cmpI k k')
    by_cases hk : k = k'
    · subst hk
      rw [if_pos rfl, if_pos rfl]
      by_cases k1 : k = 1
      · rw [if_pos k1, if_pos k1]; exact anti_cmpL _ _
      rw [if_neg k1, if_neg k1]
      by_cases k2 : k = 2
      · rw [if_pos k2, if_pos k2]; exact anti_cmpI _ _
      rw [if_neg k2, if_neg k2]
      by_cases k3 : k = 3 ∨ k = 4
      · rw [if_pos k3, if_pos k3]; exact anti_cmpL _ _
      rw [if_neg k3, if_neg k3]
      by_cases k5 : k = 5 ∨ k = 6
      · rw [if_pos k5, if_pos k5]
        have hfe : fe (min m' m) (cmpF q' q g' g (fun i => cmpT (f' i) (f i))) = - fe (min m m') (cmpF q q' g g' (fun i => cmpT (f i) (f' i))) := by
          rw [Nat.min_comm]
          exact fe_negL (fun i hi => cmpF_anti (ih i (f' i) (ht i (by omega)) (hu i (by omega))))
        show (if fe (min m' m) (cmpF q' q g' g (fun i => cmpT (f' i) (f i))) = 0 then cmpI m' m else fe (min m' m) (cmpF q' q g' g (fun i => cmpT (f' i) (f i)))) = - (if fe (min m m') (cmpF q q' g g' (fun i => cmpT (f i) (f' i))) = 0 then cmpI m m' else fe (min m m') (cmpF q q' g g' (fun i => cmpT (f i) (f' i))))
        rw [hfe]
        by_cases h0 : fe (min m m') (cmpF q q' g g' (fun i => cmpT (f i) (f' i))) = 0
        · rw [if_pos (by omega), if_pos h0]; exact anti_cmpI _ _
        · rw [if_neg (by omega), if_neg h0]
      · rw [if_neg k5, if_neg k5]; rfl
    · rw [if_neg (fun e => hk e.symm), if_neg hk]
      exact anti_cmpI _ _
theorem tri_cmpF {qa qb qc : Nat} {ga gb gc : Nat → ByteArray} {C12 C23 C13 : Nat → Int} {i : Nat} (hC : tri (C12 i) (C23 i) (C13 i)) (hq : (qa = 0 ∧ qb = 0 ∧ qc = 0) ∨ (i < qa ∧ i < qb ∧ i < qc)) :
    tri (cmpF qa qb ga gb C12 i) (cmpF qb qc gb gc C23 i) (cmpF qa qc ga gc C13 i) := by
  rcases hq with ⟨rfl, rfl, rfl⟩ | ⟨h1, h2, h3⟩
  · unfold cmpF
    rw [if_neg (by omega), if_neg (by omega), if_neg (by omega)]
    exact hC
  · unfold cmpF
    have e12 : i < min qa qb := by omega
    have e23 : i < min qb qc := by omega
    have e13 : i < min qa qc := by omega
    by_cases n12 : (ga i).data.toList = (gb i).data.toList
    · rw [if_neg (fun h => h.2 n12)]
      by_cases n23 : (gb i).data.toList = (gc i).data.toList
      · rw [if_neg (fun h => h.2 n23), if_neg (fun h => h.2 (n12.trans n23))]
        exact hC
      · rw [if_pos ⟨e23, n23⟩, if_pos ⟨e13, fun h => n23 (n12.symm.trans h)⟩]
        intro _ hy
        have hne : cmpB (gb i) (gc i) ≠ 0 := fun h => n23 (cmpL_zero h)
        have he : cmpB (ga i) (gc i) = cmpB (gb i) (gc i) := by unfold cmpB; rw [n12]
        rw [he]
        exact ⟨fun h => absurd h.2 hne, fun _ => by omega⟩
    · rw [if_pos ⟨e12, n12⟩]
      have hne1 : cmpB (ga i) (gb i) ≠ 0 := fun h => n12 (cmpL_zero h)
      by_cases n23 : (gb i).data.toList = (gc i).data.toList
      · rw [if_neg (fun h => h.2 n23), if_pos ⟨e13, fun h => n12 (h.trans n23.symm)⟩]
        intro hx _
        have he : cmpB (ga i) (gc i) = cmpB (ga i) (gb i) := by unfold cmpB; rw [n23]
        rw [he]
        exact ⟨fun h => absurd h.1 hne1, fun _ => by omega⟩
      · rw [if_pos ⟨e23, n23⟩]
        intro hx hy
        have hne2 : cmpB (gb i) (gc i) ≠ 0 := fun h => n23 (cmpL_zero h)
        have ht := (tri_cmpL (ga i).data.toList (gb i).data.toList (gc i).data.toList hx hy).2 (Or.inl (by show cmpB (ga i) (gb i) < 0; omega))
        have n13 : (ga i).data.toList ≠ (gc i).data.toList := fun e => by rw [e, cmpL_self] at ht; exact absurd ht (by decide)
        rw [if_pos ⟨e13, n13⟩]
        exact ⟨fun h => absurd h.1 hne1, fun _ => ht⟩
theorem formed5 {b : Bool} {n : Int} {s : ByteArray} {m q : Nat} (h : formedB 5 b n s m q = true) : q = 0 := by
  unfold formedB at h
  simp only [Bool.and_eq_true, Bool.or_eq_true, decide_eq_true_eq] at h
  omega
theorem tri_cmpT (t : Tr) : ∀ u v (d1 d2 d3 : Int), real t → real u → real v → soundT t d1 = 0 → soundT u d2 = 0 → soundT v d3 = 0 → tri (cmpT t u) (cmpT u v) (cmpT t v) := by
  induction t with
  | no => exact fun _ _ _ _ _ h => h.elim
  | mk k b n s m f q g ih =>
    intro u v d1 d2 d3 ht hu hv s1 s2 s3
    obtain ⟨k', b', n', s', m', f', q', g', rfl⟩ := hu.mk
    obtain ⟨k2, b2, n2, s2', m2, f2, q2, g2, rfl⟩ := hv.mk
    have P1 := soundP s1
    have P2 := soundP s2
    have P3 := soundP s3
    rw [cmpT, cmpT, cmpT]
    show tri (if k = k' then _ else cmpI k k') (if k' = k2 then _ else cmpI k' k2) (if k = k2 then _ else cmpI k k2)
    by_cases h12 : k = k'
    · subst h12
      rw [if_pos rfl]
      by_cases h23 : k = k2
      · subst h23
        rw [if_pos rfl, if_pos rfl]
        by_cases k1 : k = 1
        · rw [if_pos k1, if_pos k1, if_pos k1]; exact tri_cmpL _ _ _
        rw [if_neg k1, if_neg k1, if_neg k1]
        by_cases k2 : k = 2
        · rw [if_pos k2, if_pos k2, if_pos k2]; exact tri_cmpI _ _ _
        rw [if_neg k2, if_neg k2, if_neg k2]
        by_cases k3 : k = 3 ∨ k = 4
        · rw [if_pos k3, if_pos k3, if_pos k3]; exact tri_cmpL _ _ _
        rw [if_neg k3, if_neg k3, if_neg k3]
        by_cases k5 : k = 5 ∨ k = 6
        · rw [if_pos k5, if_pos k5, if_pos k5]
          refine tri_lex (m1 := m) (m2 := m') (m3 := m2) (F12 := cmpF q q' g g' (fun i => cmpT (f i) (f' i))) (F23 := cmpF q' q2 g' g2 (fun i => cmpT (f' i) (f2 i))) (F13 := cmpF q q2 g g2 (fun i => cmpT (f i) (f2 i))) (fun i i1 i2 i3 => ?_)
          refine tri_cmpF (ih i (f' i) (f2 i) (d1 + 1) (d2 + 1) (d3 + 1) (ht i i1) (hu i i2) (hv i i3) (P1.ch i i1) (P2.ch i i2) (P3.ch i i3)) ?_
          rcases k5 with rfl | rfl
          · exact Or.inl ⟨formed5 P1.fm, formed5 P2.fm, formed5 P3.fm⟩
          · exact Or.inr ⟨by rw [(P1.nm rfl).1]; exact i1, by rw [(P2.nm rfl).1]; exact i2, by rw [(P3.nm rfl).1]; exact i3⟩
        · rw [if_neg k5, if_neg k5, if_neg k5]
          intro _ _
          exact ⟨fun _ => rfl, fun h => by rcases h with h | h <;> exact absurd h (by decide)⟩
      · rw [if_neg h23, if_neg h23]
        intro _ hy
        have hne : cmpI k k2 ≠ 0 := by unfold cmpI; repeat' split <;> omega
        exact ⟨fun h => absurd h.2 hne, fun _ => by omega⟩
    · rw [if_neg h12]
      have hne : cmpI k k' ≠ 0 := by unfold cmpI; repeat' split <;> omega
      by_cases h23 : k' = k2
      · subst h23
        rw [if_pos rfl, if_neg h12]
        intro hx _
        exact ⟨fun h => absurd h.1 hne, fun _ => by omega⟩
      · rw [if_neg h23]
        intro hx hy
        have ht := (tri_cmpI k k' k2 hx hy).2 (Or.inl (by omega))
        have h13 : k ≠ k2 := fun e => by rw [e, cmpI_self] at ht; exact absurd ht (by decide)
        rw [if_neg h13]
        exact ⟨fun h => absurd h.1 hne, fun _ => ht⟩
end Go.Proofs.Ytjmjlijmeahmfaa
