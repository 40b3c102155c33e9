/- The order of values is one order: plain facts (turned round, one behind the other, nothing between just where the bytes are the same). Values between which there is nothing in the order are the same, and have the same bytes; others have others: plain facts. The document's bytes of a sound value (its Bytes): the program's own. -/
import Derived.Test.YtniljoojoafiaaaGreatDoorVEqv
import Derived.Test.YtniljoojoafiaaaGreatDoorXao
import Derived.Test.YtniljoojoafiaaaGreatDoorXaj
import Derived.Deep.CutRange
namespace Go.Proofs.YtniljoojoafiaaaGreatDoor.V
open Go.RowKit
def tri (x y z : Int) : Prop := x ≤ 0 → y ≤ 0 → (x = 0 ∧ y = 0 → z = 0) ∧ (x < 0 ∨ y < 0 → z < 0)
set_option maxRecDepth 100000 in
theorem tri_cmpI (a b c : Int) : tri (cmpI a b) (cmpI b c) (cmpI a c) := by
  unfold tri cmpI
  repeat' split
  all_goals omega
set_option maxRecDepth 100000 in
theorem tri_cmpL : ∀ a b c : List UInt8, tri (Lib.compareBytes a b) (Lib.compareBytes b c) (Lib.compareBytes a c)
  | [], [], [] => by show tri 0 0 0; unfold tri; omega
  | [], [], _ :: _ => by show tri 0 (-1) (-1); unfold tri; omega
  | [], _ :: _, [] => by show tri (-1) 1 0; unfold tri; omega
  | [], _ :: _, _ :: _ => by show tri (-1) _ (-1); unfold tri; omega
  | _ :: _, [], _ => by show tri 1 _ _; unfold tri; omega
  | _ :: _, _ :: _, [] => by show tri _ 1 1; unfold tri; omega
  | a :: xs, b :: ys, c :: zs => by
    have ih := tri_cmpL xs ys zs
    unfold tri at ih ⊢
    rw [Lib.compareBytes, Lib.compareBytes, Lib.compareBytes]
    have lt (x y : UInt8) : x < y ↔ x.toNat < y.toNat := UInt8.lt_iff_toNat_lt
    simp only [lt]
    repeat' split
    all_goals (try omega)
set_option maxRecDepth 100000 in
theorem anti_cmpI (a b : Int) : cmpI b a = - cmpI a b := by
  unfold cmpI
  repeat' split
  all_goals omega
set_option maxRecDepth 100000 in
theorem anti_cmpL : ∀ a b : List UInt8, Lib.compareBytes b a = - Lib.compareBytes a b
  | [], [] => by decide
  | [], _ :: _ => by rfl
  | _ :: _, [] => by rfl
  | a :: xs, b :: ys => by
    have ih := anti_cmpL xs ys
    rw [Lib.compareBytes, Lib.compareBytes]
    have lt (x y : UInt8) : x < y ↔ x.toNat < y.toNat := UInt8.lt_iff_toNat_lt
    simp only [lt]
    repeat' split
    all_goals omega
set_option maxRecDepth 100000 in
theorem fe_cases (F : Nat → Int) : ∀ m, (fe m F = 0 ∧ ∀ i, i < m → F i = 0) ∨ ∃ i, i < m ∧ F i ≠ 0 ∧ (∀ j, j < i → F j = 0) ∧ fe m F = F i
  | 0 => Or.inl ⟨rfl, fun i hi => absurd hi (Nat.not_lt_zero i)⟩
  | m + 1 => by
    rcases fe_cases F m with ⟨h1, h2⟩ | ⟨i, h1, h2, h3, h4⟩
    · by_cases h0 : F m = 0
      · left
        refine ⟨by rw [fe, if_pos h1, h0], fun i hi => ?_⟩
        rcases Nat.lt_or_ge i m with k | k
        · exact h2 i k
        · obtain rfl : i = m := by omega
          exact h0
      · right
        exact ⟨m, Nat.lt_succ_self m, h0, h2, by rw [fe, if_pos h1]⟩
    · right
      exact ⟨i, by omega, h2, h3, by rw [fe, if_neg (by rw [h4]; exact h2), h4]⟩
def lexI (m m' : Nat) (F : Nat → Int) : Int := if fe (min m m') F = 0 then cmpI m m' else fe (min m m') F
set_option maxRecDepth 100000 in
theorem lex_cases (m m' : Nat) (F : Nat → Int) : (lexI m m' F = cmpI m m' ∧ ∀ i, i < min m m' → F i = 0) ∨ ∃ i, i < min m m' ∧ F i ≠ 0 ∧ (∀ j, j < i → F j = 0) ∧ lexI m m' F = F i := by
  unfold lexI
  rcases fe_cases F (min m m') with ⟨h1, h2⟩ | ⟨i, h1, h2, h3, h4⟩
  · exact Or.inl ⟨by rw [if_pos h1], h2⟩
  · exact Or.inr ⟨i, h1, h2, h3, by rw [if_neg (by rw [h4]; exact h2), h4]⟩
set_option maxRecDepth 100000 in
theorem lex_all {m m' : Nat} {F : Nat → Int} (h : ∀ i, i < min m m' → F i = 0) : lexI m m' F = cmpI m m' := by
  unfold lexI
  rw [if_pos (fe_none _ _ h)]
set_option maxRecDepth 100000 in
theorem lex_at {m m' : Nat} {F : Nat → Int} {k : Nat} (hk : k < min m m') (h0 : ∀ j, j < k → F j = 0) (h : F k ≠ 0) : lexI m m' F = F k := by
  rcases lex_cases m m' F with ⟨_, h2⟩ | ⟨i, h1, h2, h3, h4⟩
  · exact absurd (h2 k hk) h
  · rcases Nat.lt_trichotomy i k with c | c | c
    · exact absurd (h0 i c) h2
    · rw [← c]; exact h4
    · exact absurd (h3 k c) h
set_option maxRecDepth 100000 in
theorem cmpI_le {m m' : Nat} (h : cmpI m m' ≤ 0) : m ≤ m' := by
  unfold cmpI at h
  by_cases h1 : (m : Int) < m'
  · omega
  · rw [if_neg h1] at h
    by_cases h2 : (m' : Int) < m
    · rw [if_pos h2] at h; omega
    · omega
set_option maxRecDepth 100000 in
theorem cmpI_lt {m m' : Nat} (h : m < m') : cmpI m m' < 0 := by
  unfold cmpI
  rw [if_pos (by omega)]
  decide
set_option maxRecDepth 100000 in
theorem tri_lex {m1 m2 m3 : Nat} {F12 F23 F13 : Nat → Int} (h : ∀ i, i < m1 → i < m2 → i < m3 → tri (F12 i) (F23 i) (F13 i)) : tri (lexI m1 m2 F12) (lexI m2 m3 F23) (lexI m1 m3 F13) := by
  intro hx hy
  rcases lex_cases m1 m2 F12 with ⟨e1, z1⟩ | ⟨i, i1, i2, i3, i4⟩
  · rw [e1] at hx ⊢
    have l1 := cmpI_le hx
    rcases lex_cases m2 m3 F23 with ⟨e2, z2⟩ | ⟨j, j1, j2, j3, j4⟩
    · rw [e2] at hy ⊢
      have l2 := cmpI_le hy
      have hz : ∀ i, i < min m1 m3 → F13 i = 0 := fun i hi => ((h i (by omega) (by omega) (by omega)) (by rw [z1 i (by omega)]; decide) (by rw [z2 i (by omega)]; decide)).1 ⟨z1 i (by omega), z2 i (by omega)⟩
      rw [lex_all hz]
      exact tri_cmpI m1 m2 m3 hx hy
    · rw [j4] at hy ⊢
      have hlt : F23 j < 0 := by omega
      have hz : ∀ i, i < j → i < m1 → F13 i = 0 := fun i hi h1 => ((h i h1 (by omega) (by omega)) (by rw [z1 i (by omega)]; decide) (by rw [j3 i hi]; decide)).1 ⟨z1 i (by omega), j3 i hi⟩
      refine ⟨fun hh => absurd hh.2 j2, fun _ => ?_⟩
      by_cases hj : j < m1
      · have hneg := ((h j hj (by omega) (by omega)) (by rw [z1 j (by omega)]; decide) (by omega)).2 (Or.inr hlt)
        rw [lex_at (k := j) (by omega) (fun i hi => hz i hi (by omega)) (by omega)]
        exact hneg
      · rw [lex_all (fun i hi => hz i (by omega) (by omega))]
        exact cmpI_lt (by omega)
  · rw [i4] at hx ⊢
    have hlt : F12 i < 0 := by omega
    rcases lex_cases m2 m3 F23 with ⟨e2, z2⟩ | ⟨j, j1, j2, j3, j4⟩
    · rw [e2] at hy ⊢
      have l2 := cmpI_le hy
      have hz : ∀ k, k < i → F13 k = 0 := fun k hk => ((h k (by omega) (by omega) (by omega)) (by rw [i3 k hk]; decide) (by rw [z2 k (by omega)]; decide)).1 ⟨i3 k hk, z2 k (by omega)⟩
      have hneg := ((h i (by omega) (by omega) (by omega)) (by omega) (by rw [z2 i (by omega)]; decide)).2 (Or.inl hlt)
      refine ⟨fun hh => absurd hh.1 i2, fun _ => ?_⟩
      rw [lex_at (k := i) (by omega) hz (by omega)]
      exact hneg
    · rw [j4] at hy ⊢
      have hlt2 : F23 j < 0 := by omega
      refine ⟨fun hh => absurd hh.1 i2, fun _ => ?_⟩
      rcases Nat.lt_trichotomy i j with c | c | c
      · have hz : ∀ k, k < i → F13 k = 0 := fun k hk => ((h k (by omega) (by omega) (by omega)) (by rw [i3 k hk]; decide) (by rw [j3 k (by omega)]; decide)).1 ⟨i3 k hk, j3 k (by omega)⟩
        have hneg := ((h i (by omega) (by omega) (by omega)) (by omega) (by rw [j3 i c]; decide)).2 (Or.inl hlt)
        rw [lex_at (k := i) (by omega) hz (by omega)]
        exact hneg
      · subst c
        have hz : ∀ k, k < i → F13 k = 0 := fun k hk => ((h k (by omega) (by omega) (by omega)) (by rw [i3 k hk]; decide) (by rw [j3 k (by omega)]; decide)).1 ⟨i3 k hk, j3 k (by omega)⟩
        have hneg := ((h i (by omega) (by omega) (by omega)) (by omega) (by omega)).2 (Or.inl hlt)
        rw [lex_at (k := i) (by omega) hz (by omega)]
        exact hneg
      · have hz : ∀ k, k < j → F13 k = 0 := fun k hk => ((h k (by omega) (by omega) (by omega)) (by rw [i3 k (by omega)]; decide) (by rw [j3 k hk]; decide)).1 ⟨i3 k (by omega), j3 k hk⟩
        have hneg := ((h j (by omega) (by omega) (by omega)) (by rw [i3 j c]; decide) (by omega)).2 (Or.inr hlt2)
        rw [lex_at (k := j) (by omega) hz (by omega)]
        exact hneg
def real : Tr → Prop
  | .no => False
  | .mk _ _ _ _ m f _ _ => ∀ i, i < m → real (f i)
set_option maxRecDepth 100000 in
theorem Lies.real {B : Nat} {w : World} (t : Tr) : ∀ {x : Ad}, Lies B w t x → real t := by
  induction t with
  | no => exact fun h => h.no.elim
  | mk k b n s m f q g ih =>
    intro x h
    obtain ⟨A, _, hr⟩ := h.part
    exact fun i hi => ih i (hr i hi)
set_option maxRecDepth 100000 in
theorem real.mk {t : Tr} (h : real t) : ∃ k b n s m f q g, t = .mk k b n s m f q g := by
  cases t with
  | no => exact h.elim
  | mk k b n s m f q g => exact ⟨k, b, n, s, m, f, q, g, rfl⟩
set_option maxRecDepth 100000 in
theorem fe_neg (F G : Nat → Int) (h : ∀ i, G i = - F i) : ∀ m, fe m G = - fe m F
  | 0 => rfl
  | m + 1 => by
    rw [fe, fe, fe_neg F G h m, h m]
    by_cases h0 : fe m F = 0
    · rw [if_pos (by omega), if_pos h0]
    · rw [if_neg (by omega), if_neg h0]
set_option maxRecDepth 100000 in
theorem fe_negL {F G : Nat → Int} : ∀ {m : Nat}, (∀ i, i < m → G i = - F i) → fe m G = - fe m F
  | 0, _ => rfl
  | m + 1, h => by
    rw [fe, fe, fe_negL (m := m) (fun i hi => h i (by omega)), h m (by omega)]
    by_cases h0 : fe m F = 0
    · rw [if_pos (by omega), if_pos h0]
    · rw [if_neg (by omega), if_neg h0]
set_option maxRecDepth 100000 in
theorem cmpF_anti {q uq : Nat} {g ug : Nat → ByteArray} {C D : Nat → Int} {i : Nat} (h : D i = - C i) : cmpF uq q ug g D i = - cmpF q uq g ug C i := by
  unfold cmpF
  by_cases h1 : i < min q uq ∧ (g i).data.toList ≠ (ug i).data.toList
  · rw [if_pos h1, if_pos ⟨by omega, fun e => h1.2 e.symm⟩]
    exact anti_cmpL _ _
  · rw [if_neg h1, if_neg (fun hh => h1 ⟨by omega, fun e => hh.2 e.symm⟩), h]
set_option maxRecDepth 100000 in
theorem anti_cmpT (t : Tr) : ∀ u, real t → real u → cmpT u t = - cmpT t u := by
  induction t with
  | no => exact fun _ h => h.elim
  | mk k b n s m f q g ih =>
    intro u ht hu
    obtain ⟨k', b', n', s', m', f', q', g', rfl⟩ := hu.mk
    rw [cmpT, cmpT]
    show (if k' = k then _ else cmpI k' k) = - (if k = k' then _ else cmpI k k')
    by_cases hk : k = k'
    · subst hk
      rw [if_pos rfl, if_pos rfl]
      by_cases k1 : k = 1
      · rw [if_pos k1, if_pos k1]; exact anti_cmpL _ _
      rw [if_neg k1, if_neg k1]
      by_cases k2 : k = 2
      · rw [if_pos k2, if_pos k2]; exact anti_cmpI _ _
      rw [if_neg k2, if_neg k2]
      by_cases k3 : k = 3 ∨ k = 4
      · rw [if_pos k3, if_pos k3]; exact anti_cmpL _ _
      rw [if_neg k3, if_neg k3]
      by_cases k5 : k = 5 ∨ k = 6
      · rw [if_pos k5, if_pos k5]
        have hfe : fe (min m' m) (cmpF q' q g' g (fun i => cmpT (f' i) (f i))) = - fe (min m m') (cmpF q q' g g' (fun i => cmpT (f i) (f' i))) := by
          rw [Nat.min_comm]
          exact fe_negL (fun i hi => cmpF_anti (ih i (f' i) (ht i (by omega)) (hu i (by omega))))
        show (if fe (min m' m) (cmpF q' q g' g (fun i => cmpT (f' i) (f i))) = 0 then cmpI m' m else fe (min m' m) (cmpF q' q g' g (fun i => cmpT (f' i) (f i)))) = - (if fe (min m m') (cmpF q q' g g' (fun i => cmpT (f i) (f' i))) = 0 then cmpI m m' else fe (min m m') (cmpF q q' g g' (fun i => cmpT (f i) (f' i))))
        rw [hfe]
        by_cases h0 : fe (min m m') (cmpF q q' g g' (fun i => cmpT (f i) (f' i))) = 0
        · rw [if_pos (by omega), if_pos h0]; exact anti_cmpI _ _
        · rw [if_neg (by omega), if_neg h0]
      · rw [if_neg k5, if_neg k5]; rfl
    · rw [if_neg (fun e => hk e.symm), if_neg hk]
      exact anti_cmpI _ _
set_option maxRecDepth 100000 in
theorem tri_cmpF {qa qb qc : Nat} {ga gb gc : Nat → ByteArray} {C12 C23 C13 : Nat → Int} {i : Nat} (hC : tri (C12 i) (C23 i) (C13 i)) (hq : (qa = 0 ∧ qb = 0 ∧ qc = 0) ∨ (i < qa ∧ i < qb ∧ i < qc)) :
    tri (cmpF qa qb ga gb C12 i) (cmpF qb qc gb gc C23 i) (cmpF qa qc ga gc C13 i) := by
  rcases hq with ⟨rfl, rfl, rfl⟩ | ⟨h1, h2, h3⟩
  · unfold cmpF
    rw [if_neg (by omega), if_neg (by omega), if_neg (by omega)]
    exact hC
  · unfold cmpF
    have e12 : i < min qa qb := by omega
    have e23 : i < min qb qc := by omega
    have e13 : i < min qa qc := by omega
    by_cases n12 : (ga i).data.toList = (gb i).data.toList
    · rw [if_neg (fun h => h.2 n12)]
      by_cases n23 : (gb i).data.toList = (gc i).data.toList
      · rw [if_neg (fun h => h.2 n23), if_neg (fun h => h.2 (n12.trans n23))]
        exact hC
      · rw [if_pos ⟨e23, n23⟩, if_pos ⟨e13, fun h => n23 (n12.symm.trans h)⟩]
        intro _ hy
        have hne : cmpB (gb i) (gc i) ≠ 0 := fun h => n23 (cmpL_zero h)
        have he : cmpB (ga i) (gc i) = cmpB (gb i) (gc i) := by unfold cmpB; rw [n12]
        rw [he]
        exact ⟨fun h => absurd h.2 hne, fun _ => by omega⟩
    · rw [if_pos ⟨e12, n12⟩]
      have hne1 : cmpB (ga i) (gb i) ≠ 0 := fun h => n12 (cmpL_zero h)
      by_cases n23 : (gb i).data.toList = (gc i).data.toList
      · rw [if_neg (fun h => h.2 n23), if_pos ⟨e13, fun h => n12 (h.trans n23.symm)⟩]
        intro hx _
        have he : cmpB (ga i) (gc i) = cmpB (ga i) (gb i) := by unfold cmpB; rw [n23]
        rw [he]
        exact ⟨fun h => absurd h.1 hne1, fun _ => by omega⟩
      · rw [if_pos ⟨e23, n23⟩]
        intro hx hy
        have hne2 : cmpB (gb i) (gc i) ≠ 0 := fun h => n23 (cmpL_zero h)
        have ht := (tri_cmpL (ga i).data.toList (gb i).data.toList (gc i).data.toList hx hy).2 (Or.inl (by show cmpB (ga i) (gb i) < 0; omega))
        have n13 : (ga i).data.toList ≠ (gc i).data.toList := fun e => by rw [e, cmpL_self] at ht; exact absurd ht (by decide)
        rw [if_pos ⟨e13, n13⟩]
        exact ⟨fun h => absurd h.1 hne1, fun _ => ht⟩
set_option maxRecDepth 100000 in
theorem formed5 {b : Bool} {n : Int} {s : ByteArray} {m q : Nat} (h : formedB 5 b n s m q = true) : q = 0 := by
  unfold formedB at h
  simp only [Bool.and_eq_true, Bool.or_eq_true, decide_eq_true_eq] at h
  omega
set_option maxRecDepth 100000 in
theorem tri_cmpT (t : Tr) : ∀ u v (d1 d2 d3 : Int), real t → real u → real v → soundT t d1 = 0 → soundT u d2 = 0 → soundT v d3 = 0 → tri (cmpT t u) (cmpT u v) (cmpT t v) := by
  induction t with
  | no => exact fun _ _ _ _ _ h => h.elim
  | mk k b n s m f q g ih =>
    intro u v d1 d2 d3 ht hu hv s1 s2 s3
    obtain ⟨k', b', n', s', m', f', q', g', rfl⟩ := hu.mk
    obtain ⟨k2, b2, n2, s2', m2, f2, q2, g2, rfl⟩ := hv.mk
    have P1 := soundP s1
    have P2 := soundP s2
    have P3 := soundP s3
    rw [cmpT, cmpT, cmpT]
    show tri (if k = k' then _ else cmpI k k') (if k' = k2 then _ else cmpI k' k2) (if k = k2 then _ else cmpI k k2)
    by_cases h12 : k = k'
    · subst h12
      rw [if_pos rfl]
      by_cases h23 : k = k2
      · subst h23
        rw [if_pos rfl, if_pos rfl]
        by_cases k1 : k = 1
        · rw [if_pos k1, if_pos k1, if_pos k1]; exact tri_cmpL _ _ _
        rw [if_neg k1, if_neg k1, if_neg k1]
        by_cases k2 : k = 2
        · rw [if_pos k2, if_pos k2, if_pos k2]; exact tri_cmpI _ _ _
        rw [if_neg k2, if_neg k2, if_neg k2]
        by_cases k3 : k = 3 ∨ k = 4
        · rw [if_pos k3, if_pos k3, if_pos k3]; exact tri_cmpL _ _ _
        rw [if_neg k3, if_neg k3, if_neg k3]
        by_cases k5 : k = 5 ∨ k = 6
        · rw [if_pos k5, if_pos k5, if_pos k5]
          refine tri_lex (m1 := m) (m2 := m') (m3 := m2) (F12 := cmpF q q' g g' (fun i => cmpT (f i) (f' i))) (F23 := cmpF q' q2 g' g2 (fun i => cmpT (f' i) (f2 i))) (F13 := cmpF q q2 g g2 (fun i => cmpT (f i) (f2 i))) (fun i i1 i2 i3 => ?_)
          refine tri_cmpF (ih i (f' i) (f2 i) (d1 + 1) (d2 + 1) (d3 + 1) (ht i i1) (hu i i2) (hv i i3) (P1.ch i i1) (P2.ch i i2) (P3.ch i i3)) ?_
          rcases k5 with rfl | rfl
          · exact Or.inl ⟨formed5 P1.fm, formed5 P2.fm, formed5 P3.fm⟩
          · exact Or.inr ⟨by rw [(P1.nm rfl).1]; exact i1, by rw [(P2.nm rfl).1]; exact i2, by rw [(P3.nm rfl).1]; exact i3⟩
        · rw [if_neg k5, if_neg k5, if_neg k5]
          intro _ _
          exact ⟨fun _ => rfl, fun h => by rcases h with h | h <;> exact absurd h (by decide)⟩
      · rw [if_neg h23, if_neg h23]
        intro _ hy
        have hne : cmpI k k2 ≠ 0 := by unfold cmpI; repeat' split <;> omega
        exact ⟨fun h => absurd h.2 hne, fun _ => by omega⟩
    · rw [if_neg h12]
      have hne : cmpI k k' ≠ 0 := by unfold cmpI; repeat' split <;> omega
      by_cases h23 : k' = k2
      · subst h23
        rw [if_pos rfl, if_neg h12]
        intro hx _
        exact ⟨fun h => absurd h.1 hne, fun _ => by omega⟩
      · rw [if_neg h23]
        intro hx hy
        have ht := (tri_cmpI k k' k2 hx hy).2 (Or.inl (by omega))
        have h13 : k ≠ k2 := fun e => by rw [e, cmpI_self] at ht; exact absurd ht (by decide)
        rw [if_neg h13]
        exact ⟨fun h => absurd h.1 hne, fun _ => ht⟩
end Go.Proofs.YtniljoojoafiaaaGreatDoor.V
namespace Go.Proofs.YtniljoojoafiaaaGreatDoor.V
open Go.RowKit
structure Fm (k : Int) (b : Bool) (n : Int) (s : ByteArray) (m q : Nat) : Prop where
  b : k ≠ 1 → b = false
  n : k ≠ 2 → n = 0
  s : k ≠ 3 → k ≠ 4 → s = ⟨#[]⟩
  m : k ≠ 5 → k ≠ 6 → m = 0
  q : k ≠ 6 → q = 0
set_option maxRecDepth 100000 in
theorem fm_of {k : Int} {b : Bool} {n : Int} {s : ByteArray} {m q : Nat} (h : formedB k b n s m q = true) : Fm k b n s m q := by
  unfold formedB at h
  simp only [Bool.and_eq_true, Bool.or_eq_true, decide_eq_true_eq, Bool.not_eq_true'] at h
  obtain ⟨⟨⟨⟨⟨⟨_, _⟩, hb⟩, hn⟩, hs⟩, hm⟩, hq⟩ := h
  refine ⟨fun h1 => ?_, fun h1 => ?_, fun h1 h2 => ?_, fun h1 h2 => ?_, fun h1 => ?_⟩
  · rcases hb with e | e
    · exact absurd e h1
    · exact e
  · rcases hn with e | e
    · exact absurd e h1
    · exact e
  · rcases hs with (e | e) | e
    · exact absurd e h1
    · exact absurd e h2
    · rw [empty_size] at e
      have := of_decide_eq_true e
      apply ByteArray.ext
      apply Array.toList_inj.mp
      rw [Lib.size_eq] at this
      exact List.length_eq_zero_iff.mp this
  · rcases hm with (e | e) | e
    · exact absurd e h1
    · exact absurd e h2
    · omega
  · rcases hq with e | e
    · exact absurd e h1
    · omega
set_option maxRecDepth 100000 in
theorem str_of {a b : ByteArray} (h : cmpB a b = 0) : a = b := by
  apply ByteArray.ext
  apply Array.toList_inj.mp
  exact cmpB_zero h
set_option maxRecDepth 100000 in
theorem cmpI_zero {a b : Int} (h : cmpI a b = 0) : a = b := by
  unfold cmpI at h
  by_cases h1 : a < b
  · rw [if_pos h1] at h; cases h
  · rw [if_neg h1] at h
    by_cases h2 : b < a
    · rw [if_pos h2] at h; cases h
    · omega
set_option maxRecDepth 100000 in
theorem eqv_of_zero (t : Tr) : ∀ u (d1 d2 : Int), real t → real u → soundT t d1 = 0 → soundT u d2 = 0 → cmpT t u = 0 → eqvT t u := by
  induction t with
  | no => exact fun _ _ _ h => h.elim
  | mk k b n s m f q g ih =>
    intro u d1 d2 ht hu s1 s2 h
    obtain ⟨k', b', n', s', m', f', q', g', rfl⟩ := hu.mk
    have P1 := soundP s1
    have P2 := soundP s2
    have F1 := fm_of P1.fm
    have F2 := fm_of P2.fm
    rw [cmpT] at h
    replace h : (if k = k' then (if k = 1 then cmpB (boolB b) (boolB b') else if k = 2 then cmpI n n' else if k = 3 ∨ k = 4 then cmpB s s' else if k = 5 ∨ k = 6 then (if fe (min m m') (cmpF q q' g g' (fun i => cmpT (f i) (f' i))) = 0 then cmpI m m' else fe (min m m') (cmpF q q' g g' (fun i => cmpT (f i) (f' i)))) else 0) else cmpI k k') = 0 := h
    have hk : k = k' := by
      by_cases e : k = k'
      · exact e
      · rw [if_neg e] at h; exact cmpI_zero h
    subst hk
    rw [if_pos rfl] at h
    have hb : b' = b := by
      by_cases k1 : k = 1
      · rw [if_pos k1] at h
        have := str_of h
        cases b <;> cases b' <;> first | rfl | (exfalso; revert this; decide)
      · rw [F1.b k1, F2.b k1]
    have hn : n' = n := by
      by_cases k2 : k = 2
      · rw [if_neg (by omega), if_pos k2] at h
        exact (cmpI_zero h).symm
      · rw [F1.n k2, F2.n k2]
    have hs : s' = s := by
      by_cases k3 : k = 3 ∨ k = 4
      · rw [if_neg (by omega), if_neg (by omega), if_pos k3] at h
        exact (str_of h).symm
      · rw [F1.s (by omega) (by omega), F2.s (by omega) (by omega)]
    have hm : m' = m ∧ ∀ i, i < m → cmpF q q' g g' (fun i => cmpT (f i) (f' i)) i = 0 := by
      by_cases k5 : k = 5 ∨ k = 6
      · rw [if_neg (by omega), if_neg (by omega), if_neg (by omega), if_pos k5] at h
        by_cases h0 : fe (min m m') (cmpF q q' g g' (fun i => cmpT (f i) (f' i))) = 0
        · rw [if_pos h0] at h
          have hmm : (m : Int) = m' := cmpI_zero h
          obtain rfl : m' = m := by omega
          refine ⟨rfl, fun i hi => fe_zero h0 i (by omega)⟩
        · rw [if_neg h0] at h; exact absurd h h0
      · have e1 := F1.m (by omega) (by omega)
        have e2 := F2.m (by omega) (by omega)
        exact ⟨by omega, fun i hi => by omega⟩
    obtain ⟨rfl, hz⟩ := hm
    have hq : q' = q := by
      by_cases k6 : k = 6
      · rw [(P1.nm k6).1, (P2.nm k6).1]
      · rw [F1.q k6, F2.q k6]
    subst hq
    refine ⟨by simp, rfl, hb, hn, hs, rfl, rfl, fun i hi => ?_, fun i hi => ?_⟩
    · have hzi := hz i hi
      unfold cmpF at hzi
      by_cases hc : i < min q' q' ∧ (g i).data.toList ≠ (g' i).data.toList
      · rw [if_pos hc] at hzi
        exact absurd (cmpB_zero hzi) hc.2
      · rw [if_neg hc] at hzi
        exact ih i (f' i) (d1 + 1) (d2 + 1) (ht i hi) (hu i hi) (P1.ch i hi) (P2.ch i hi) hzi
    · have hqm : i < m' := by
        by_cases k6 : k = 6
        · rw [← (P1.nm k6).1]; exact hi
        · rw [F1.q k6] at hi; omega
      have hzi := hz i hqm
      unfold cmpF at hzi
      by_cases hc : (g i).data.toList = (g' i).data.toList
      · show g' i = g i
        apply ByteArray.ext
        apply Array.toList_inj.mp
        exact hc.symm
      · rw [if_pos ⟨by omega, hc⟩] at hzi
        exact absurd (cmpB_zero hzi) hc
set_option maxRecDepth 100000 in
theorem eqv_both {t u v : Tr} (h1 : eqvT t v) (h2 : eqvT u v) (hu : real u) : eqvT t u := by
  revert u v
  induction t with
  | no => exact fun {_ _} h => h.elim
  | mk k b n s m f q g ih =>
    intro u v h1 h2 hu
    obtain ⟨k', b', n', s', m', f', q', g', rfl⟩ := hu.mk
    obtain ⟨a0, a1, a2, a3, a4, a5, a6, a7, a8⟩ := h1
    obtain ⟨_, c1, c2, c3, c4, c5, c6, c7, c8⟩ := h2
    have hm : m' = m := c5.symm.trans a5
    have hq : q' = q := c6.symm.trans a6
    exact ⟨by simp, c1.symm.trans a1, c2.symm.trans a2, c3.symm.trans a3, c4.symm.trans a4, hm, hq, fun i hi => ih i (a7 i hi) (c7 i (by omega)) (hu i (by omega)), fun i hi => (c8 i (by omega)).symm.trans (a8 i hi)⟩
set_option maxRecDepth 100000 in
theorem check_sound {t : Tr} (h : checkT t = 0) : soundT t 1 = 0 := by
  unfold checkT at h
  by_cases h2 : soundT t 1 = 0
  · exact h2
  · rw [if_neg h2] at h; exact absurd h h2
set_option maxRecDepth 100000 in
theorem zero_iff {B : Nat} {w : World} {t u : Tr} {x y : Ad} (hL : Lies B w t x) (hL' : Lies B w u y) (h1 : checkT t = 0) (h2 : checkT u = 0) : cmpT t u = 0 ↔ encT t = encT u := by
  constructor
  · intro h
    exact (eqv_enc (eqv_of_zero t u 1 1 (Lies.real t hL) (Lies.real u hL') (check_sound h1) (check_sound h2) h)).symm
  · intro h
    have e1 := (dec_enc hL h1).2.2
    have e2 := (dec_enc hL' h2).2.2
    rw [← h] at e2
    exact eqv_cmp t u (eqv_both e1 e2 (Lies.real u hL'))
end Go.Proofs.YtniljoojoafiaaaGreatDoor.V
namespace Go.Proofs.YtniljoojoafiaaaGreatDoor.V
open Go.RowKit
set_option maxRecDepth 100000 in
theorem str_mk {l : List UInt8} {y : ByteArray} (h : y.data.toList = l) : y = ⟨l.toArray⟩ := by
  apply ByteArray.ext
  rw [← h]
set_option maxRecDepth 100000 in
theorem boolB_list (b : Bool) : (boolB b).data.toList = [if b then 1 else 0] := by cases b <;> rfl
set_option maxRecDepth 100000 in
theorem cat_len {F : Nat → List UInt8} {K : Nat} : ∀ {m : Nat}, (∀ i, i < m → (F i).length ≤ K) → (cat m F).length ≤ m * K
  | 0, _ => by simp [cat]
  | m + 1, h => by
    have h1 := cat_len (m := m) (F := F) (K := K) (fun i hi => h i (by omega))
    have h2 := h m (by omega)
    show (cat m F ++ F m).length ≤ _
    rw [List.length_append, Nat.succ_mul]
    omega
set_option maxRecDepth 100000 in
theorem bytesT_len {B : Nat} {w : World} (t : Tr) : ∀ (j : Nat) (d : Int) (x : Ad), Lies B w t x → d = 8 - (j : Int) → soundT t d = 0 → small t → (bytesT t).length ≤ 5000 * 33 ^ j := by
  induction t with
  | no => exact fun _ _ _ hL => hL.no.elim
  | mk k b n s m f q g ih =>
    intro j d x hL hd h0 hsm
    obtain ⟨d8, fm, k0, k6, m32, nm, ch⟩ := soundP h0
    have h1 : 1 ≤ 33 ^ j := Nat.one_le_pow _ _ (by decide)
    have hs4 : s.size ≤ 4096 := hsm.1
    obtain ⟨A, _, hr⟩ := hL.part
    have hn : -9223372036854775808 ≤ n ∧ n < 9223372036854775808 := hL.lims.2.1
    have hm0 : j = 0 → m = 0 := by
      intro hj
      rcases Nat.eq_zero_or_pos m with e | e
      · exact e
      · have := ch 0 e
        have hL0 := hr 0 e
        cases hf : f 0 with
        | no => rw [hf] at hL0; exact hL0.no.elim
        | mk k2 b2 n2 s2 m2 f2 q2 g2 =>
          rw [hf] at this
          have := (soundP this).d8
          omega
    rw [bytesT]
    rw [List.length_cons]
    split
    · simp; omega
    split
    · have := put_len10 (n := zig n) (zig_lt hn.1 hn.2)
      omega
    split
    · have := textL_len s hs4
      omega
    split
    · have hp := put_len10 (n := m) (by omega)
      rw [List.length_append]
      rcases Nat.eq_zero_or_pos m with e | e
      · subst e
        simp [cat]
        omega
      · cases j with
        | zero => exact absurd (hm0 rfl) (by omega)
        | succ j =>
          have hc : (cat m (fun i => (if k = 6 then textL (g i) else []) ++ bytesT (f i))).length ≤ m * (26 + 5000 * 33 ^ j) := by
            refine cat_len fun i hi => ?_
            have h2 := ih i j (d + 1) (A i) (hr i hi) (by omega) (ch i hi) (hsm.2 i hi)
            rw [List.length_append]
            split
            · rename_i h6
              have h3 := okN_size ((nm h6).2 i (by rw [(nm h6).1]; exact hi))
              have := textL_len (g i) (by omega)
              omega
            · simp; omega
          have hmm : m * (26 + 5000 * 33 ^ j) ≤ 32 * (26 + 5000 * 33 ^ j) := Nat.mul_le_mul_right _ m32
          have h4 : 1 ≤ 33 ^ j := Nat.one_le_pow _ _ (by decide)
          rw [Nat.pow_succ]
          omega
    · simp; omega
set_option maxRecDepth 100000 in
theorem wrap8 {k : Int} (h0 : 0 ≤ k) (h6 : k ≤ 6) : IntKind.u8.wrap k = k := by rw [IntKind.wrap_u8']; omega
end Go.Proofs.YtniljoojoafiaaaGreatDoor.V
