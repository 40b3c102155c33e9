/- What expressions that were parsed look like: kinds, kids and signs as they must be. -/
import Derived.Test.YtcniebkehekliaaGreatDoorWht
namespace Go.Proofs.YtcniebkehekliaaGreatDoor
open Go.RowKit Go.Shelf
def sgns : List (List UInt8) := [[79, 82], [65, 78, 68], [61], [60, 62], [60], [60, 61], [62], [62, 61], [43], [45], [42]]
structure EnOk (e : En) : Prop where
  form : (e.k = 1 ∧ e.n = 0) ∨ (e.k = 2 ∧ e.n = 0) ∨ ((e.k = 3 ∨ e.k = 4 ∨ e.k = 5) ∧ e.n = 1 ∧ e.s.data.toList = []) ∨ (e.k = 6 ∧ e.n = 2 ∧ e.s.data.toList ∈ sgns) ∨ e.k = 7 ∨ (e.k = 8 ∧ e.m = e.n)
  few : e.n ≤ 40 ∧ e.m ≤ 40
def Wfd : Nat → Et → Prop
  | 0, _ => True
  | d + 1, t => EnOk (t []) ∧ ∀ i, i < (t []).n → Wfd d (t.sub i)
def Gt (t : Et) : Prop := ∀ d, Wfd d t
theorem Gt.node {e : En} {f : Nat → Et} (h : EnOk e) (k : ∀ i, i < e.n → Gt (f i)) : Gt (Et.node e f) := fun d => by
  cases d with
  | zero => trivial
  | succ d => exact ⟨h, fun i hi => k i hi d⟩
theorem Gt.top {t : Et} (h : Gt t) : EnOk (t []) := (h 1).1
theorem Gt.sub {t : Et} (h : Gt t) {i : Nat} (hi : i < (t []).n) : Gt (t.sub i) := fun d => (h (d + 1)).2 i hi
theorem sgn_rank {x : Wd} {r : Nat} (h : rankI x = (r : Int)) : x.s ∈ sgns := by
  have h0 : rankI x ≠ -1 := by omega
  unfold rankI keyR signR at h0
  unfold sgns
  simp only [List.mem_cons, List.not_mem_nil, or_false]
  by_cases k2 : x.k = 2
  · rw [if_pos k2] at h0
    by_cases a1 : (x.s == [79, 82]) = true
    · exact Or.inl (by simpa using a1)
    · rw [if_neg a1] at h0
      by_cases a2 : (x.s == [65, 78, 68]) = true
      · exact Or.inr (Or.inl (by simpa using a2))
      · rw [if_neg a2] at h0
        exact absurd rfl h0
  · rw [if_neg k2] at h0
    by_cases k6 : x.k = 6
    · rw [if_pos k6] at h0
      repeat' split at h0
      all_goals first
        | (exact absurd rfl h0)
        | (simp_all)
    · rw [if_neg k6] at h0
      exact absurd rfl h0
theorem failP_er {ws : List Wd} {s : PS} {e : Nat} (he : e ≠ 0) : (failP ws s e).er ≠ 0 := by
  unfold failP
  split
  · exact he
  · rename_i h; exact h
theorem mustQ_er {ws : List Wd} {s : PS} {k : Nat} {l : List UInt8} (h : (mustQ ws s k l).er = 0) : s.er = 0 ∧ (mustQ ws s k l).ne = s.ne := by
  unfold mustQ at h ⊢
  split at h
  · rename_i h1; rw [if_pos h1]; exact ⟨h, rfl⟩
  · exact absurd h (failP_er (by decide))
theorem nameP_er {ws : List Wd} {s : PS} (h : (nameP ws s).er = 0) : s.er = 0 ∧ (nameP ws s).ne = s.ne := by
  unfold nameP at h ⊢
  split at h
  · rename_i h1; rw [if_pos h1]; exact ⟨h, rfl⟩
  · exact absurd h (failP_er (by decide))
theorem wholeP_er {ws : List Wd} {s : PS} (h : (wholeP ws s).er = 0) : s.er = 0 ∧ (wholeP ws s).ne = s.ne := by
  unfold wholeP at h ⊢
  split at h
  · exact absurd h (failP_er (by decide))
  · rename_i h1; rw [if_neg h1]; exact ⟨h, rfl⟩
theorem deepP_er {ws : List Wd} {s : PS} (h : (deepP ws s).er = 0) : s.er = 0 ∧ (deepP ws s).ne = s.ne + 1 ∧ s.ne + 1 ≤ 24 := by
  unfold deepP at h ⊢
  split at h
  · exact absurd h (failP_er (by decide))
  · rename_i h1; rw [if_neg h1]; exact ⟨h, rfl, by omega⟩
/- An error stays. -/
def Ep {α : Type} (f : PS → α × PS) : Prop := ∀ u, (f u).2.er = 0 → u.er = 0
/- What a parser answers is as it must be, where no error is told. -/
def Gp {α : Type} (A : α → Prop) (f : PS → α × PS) (s : PS) : Prop := (f s).2.er = 0 → (f s).2.ne = s.ne ∧ A (f s).1
theorem bin_gt {sg : ByteArray} {a b : Et} (h : sg.data.toList ∈ sgns) (ha : Gt a) (hb : Gt b) : Gt (binT sg a b) := by
  refine Gt.node ⟨Or.inr (Or.inr (Or.inr (Or.inl ⟨rfl, rfl, h⟩))), by simp [nodeE]⟩ fun i _ => ?_
  by_cases h0 : i = 0
  · simpa [h0] using ha
  · simpa [h0] using hb
theorem one_gt {k : Nat} (hk : k = 3 ∨ k = 4 ∨ k = 5) {t : Et} (h : Gt t) : Gt (oneT k t) :=
  Gt.node ⟨Or.inr (Or.inr (Or.inl ⟨hk, rfl, rfl⟩)), by simp [nodeE]⟩ fun _ _ => h
theorem lit_gt (v : Nat × Bool × Int × ByteArray) : Gt (litT v) := Gt.node ⟨Or.inl ⟨rfl, rfl⟩, by simp⟩ fun i hi => absurd hi (Nat.not_lt_zero _)
theorem field_gt (s : ByteArray) : Gt (fieldT s) := Gt.node ⟨Or.inr (Or.inl ⟨rfl, rfl⟩), by simp [nodeE]⟩ fun i hi => absurd hi (Nat.not_lt_zero _)
theorem list_gt {l : List Et} (hl : l.length ≤ 40) (h : ∀ t, t ∈ l → Gt t) : Gt (listT l) := by
  refine Gt.node ⟨Or.inr (Or.inr (Or.inr (Or.inr (Or.inl rfl)))), by simpa [nodeE] using hl⟩ fun i hi => ?_
  have hi' : i < l.length := hi
  exact h _ (by simp [hi'])
theorem struct_gt {l : List (ByteArray × Et)} (hl : l.length ≤ 40) (h : ∀ t, t ∈ l → Gt t.2) : Gt (structT l) := by
  refine Gt.node ⟨Or.inr (Or.inr (Or.inr (Or.inr (Or.inr ⟨rfl, rfl⟩)))), hl, hl⟩ fun i hi => ?_
  have hi' : i < l.length := hi
  exact h _ (by simp [hi'])
theorem sides_ep {ws : List Wd} {f : PS → Et × PS} (hp : Ep f) {t : Et} {s : PS} (h : (sidesF ws f t s).2.er = 0) : s.er = 0 := hp (takeP s) (wholeP_er h).1
theorem sides_gt {ws : List Wd} {f : PS → Et × PS} {t : Et} {s : PS} {r : Nat} (hr : rankI (wAt ws s.at') = (r : Int)) (hf : Gp Gt f (takeP s)) (ht : Gt t) (h : (sidesF ws f t s).2.er = 0) : (sidesF ws f t s).2.ne = s.ne ∧ Gt (sidesF ws f t s).1 := by
  have h1 := wholeP_er h
  have h2 := hf h1.1
  exact ⟨h1.2.trans h2.1, bin_gt (by simpa [wdS] using sgn_rank hr) ht h2.2⟩
theorem loop_ep {ws : List Wd} {f : PS → Et × PS} {rank : Nat} (hp : Ep f) : ∀ (n : Nat) (x : Et × PS), (loopF ws f rank n x).2.er = 0 → x.2.er = 0
  | 0, _, h => h
  | n + 1, x, h => by
    unfold loopF at h
    split at h
    · exact sides_ep hp (loop_ep hp n _ h)
    · exact h
theorem loop_gt {ws : List Wd} {f : PS → Et × PS} {rank m : Nat} (hp : Ep f) (hf : ∀ u, u.ne = m → Gp Gt f u) : ∀ (n : Nat) (x : Et × PS), (x.2.er = 0 → x.2.ne = m ∧ Gt x.1) → (loopF ws f rank n x).2.er = 0 → (loopF ws f rank n x).2.ne = m ∧ Gt (loopF ws f rank n x).1
  | 0, x, h2, h3 => h2 h3
  | n + 1, x, h2, h3 => by
    unfold loopF at h3 ⊢
    split at h3
    · rename_i hr
      rw [if_pos hr]
      refine loop_gt hp hf n _ (fun he => ?_) h3
      have h4 := h2 (sides_ep hp he)
      have h5 := sides_gt hr (hf (takeP x.2) h4.1) h4.2 he
      exact ⟨h5.1.trans h4.1, h5.2⟩
    · rename_i hr
      rw [if_neg hr]
      exact h2 h3
theorem com_ep {α : Type} {ws : List Wd} {one : PS → α × PS} (hp : Ep one) : ∀ (n : Nat) (l : List α) (s : PS), (comF ws one n l s).2.er = 0 → s.er = 0
  | 0, _, _, h => h
  | n + 1, l, s, h => by
    unfold comF at h
    split at h
    · exact absurd h (failP_er (by decide))
    · split at h
      · exact hp _ (com_ep hp n _ (takeP (one s).2) h)
      · exact hp _ h
theorem com_gt {α : Type} {A : α → Prop} {ws : List Wd} {one : PS → α × PS} {m : Nat} (hp : Ep one) (hf : ∀ u, u.ne = m → Gp A one u) : ∀ (n : Nat) (l : List α) (s : PS), s.ne = m → (∀ x, x ∈ l → A x) → (comF ws one n l s).2.er = 0 → (comF ws one n l s).2.ne = m ∧ ∀ x, x ∈ (comF ws one n l s).1 → A x
  | 0, l, s, h1, h2, _ => ⟨h1, h2⟩
  | n + 1, l, s, h1, h2, h3 => by
    unfold comF at h3 ⊢
    split at h3
    · exact absurd h3 (failP_er (by decide))
    · rename_i h32
      rw [if_neg h32]
      split at h3
      · rename_i hc
        rw [if_pos hc]
        have h4 := hf s h1 (com_ep (one := one) (ws := ws) hp n _ (takeP (one s).2) h3)
        refine com_gt hp hf n _ _ (h4.1.trans h1) (fun x hx => ?_) h3
        rcases List.mem_append.1 hx with hx | hx
        · exact h2 x hx
        · rw [List.mem_singleton] at hx; rw [hx]; exact h4.2
      · rename_i hc
        rw [if_neg hc]
        have h4 := hf s h1 h3
        refine ⟨h4.1.trans h1, fun x hx => ?_⟩
        rcases List.mem_append.1 hx with hx | hx
        · exact h2 x hx
        · rw [List.mem_singleton] at hx; rw [hx]; exact h4.2
theorem path_ep {ws : List Wd} : ∀ (n : Nat) (l : List ByteArray) (s : PS), (pathL ws n l s).2.er = 0 → s.er = 0 ∧ (pathL ws n l s).2.ne = s.ne
  | 0, _, _, h => ⟨h, rfl⟩
  | n + 1, l, s, h => by
    unfold pathL at h ⊢
    split at h
    · rename_i h1
      rw [if_pos h1]
      have h2 := path_ep n _ _ h
      have h3 := nameP_er h2.1
      exact ⟨h3.1, h2.2.trans h3.2⟩
    · rename_i h1
      rw [if_neg h1]
      exact ⟨h, rfl⟩
theorem pathF_ep {ws : List Wd} {s : PS} (h : (pathF ws s).2.er = 0) : s.er = 0 ∧ (pathF ws s).2.ne = s.ne := by
  unfold pathF at h ⊢
  have h1 := path_ep _ _ _ h
  have h2 := nameP_er h1.1
  exact ⟨h2.1, h1.2.trans h2.2⟩
theorem named_ep {ws : List Wd} {f : PS → Et × PS} (hp : Ep f) (bt : List UInt8) : Ep (namedF ws f bt) := fun _ h => (nameP_er (mustQ_er (hp _ h)).1).1
theorem named_gt {ws : List Wd} {f : PS → Et × PS} {m : Nat} (hp : Ep f) (hf : ∀ u, u.ne = m → Gp Gt f u) (bt : List UInt8) (u : PS) (hu : u.ne = m) : Gp (fun x : ByteArray × Et => Gt x.2) (namedF ws f bt) u := fun h => by
  have h1 := mustQ_er (hp _ h)
  have h2 := nameP_er h1.1
  have h3 := hf _ ((h1.2.trans h2.2).trans hu) h
  exact ⟨(h3.1.trans (h1.2.trans h2.2)), h3.2⟩
theorem listF_ep {ws : List Wd} {f : PS → Et × PS} (hp : Ep f) : Ep (listF ws f) := fun u h => by
  unfold listF at h
  split at h
  · exact (wholeP_er h).1
  · exact com_ep hp _ _ _ (mustQ_er (wholeP_er h).1).1
theorem listF_gt {ws : List Wd} {f : PS → Et × PS} {m : Nat} (hp : Ep f) (hf : ∀ u, u.ne = m → Gp Gt f u) (u : PS) (hu : u.ne = m) : Gp Gt (listF ws f) u := fun h => by
  unfold listF at h ⊢
  split at h
  · rename_i h1
    rw [if_pos h1]
    exact ⟨(wholeP_er h).2, list_gt (by simp) (fun t ht => by simp at ht)⟩
  · rename_i h1
    rw [if_neg h1]
    have h2 := wholeP_er h
    have h3 := mustQ_er h2.1
    have h4 := com_gt hp hf 33 [] u hu (fun x hx => by simp at hx) h3.1
    have h5 := comF_len ws f 33 [] u
    exact ⟨(h2.2.trans h3.2).trans (h4.1.trans hu.symm), list_gt (by simp at h5; omega) h4.2⟩
theorem structF_ep {ws : List Wd} {f : PS → Et × PS} (hp : Ep f) : Ep (structF ws f) := fun u h => by
  unfold structF at h
  split at h
  · exact (wholeP_er h).1
  · exact com_ep (named_ep hp _) _ _ _ (mustQ_er (wholeP_er h).1).1
theorem structF_gt {ws : List Wd} {f : PS → Et × PS} {m : Nat} (hp : Ep f) (hf : ∀ u, u.ne = m → Gp Gt f u) (u : PS) (hu : u.ne = m) : Gp Gt (structF ws f) u := fun h => by
  unfold structF at h ⊢
  split at h
  · rename_i h1
    rw [if_pos h1]
    exact ⟨(wholeP_er h).2, struct_gt (by simp) (fun t ht => by simp at ht)⟩
  · rename_i h1
    rw [if_neg h1]
    have h2 := wholeP_er h
    have h3 := mustQ_er h2.1
    have h4 := com_gt (A := fun x : ByteArray × Et => Gt x.2) (named_ep hp [58]) (named_gt hp hf [58]) 33 [] u hu (fun x hx => by simp at hx) h3.1
    have h5 := comF_len ws (namedF ws f [58]) 33 [] u
    exact ⟨(h2.2.trans h3.2).trans (h4.1.trans hu.symm), struct_gt (by simp at h5; omega) h4.2⟩
theorem litF_ep {ws : List Wd} {u : PS} (h : (litF ws u).2.er = 0) : u.er = 0 ∧ (litF ws u).2.ne = u.ne ∧ Gt (litF ws u).1 := by
  unfold litF at h ⊢
  split at h
  · rename_i v hv
    have h1 := wholeP_er h
    exact ⟨h1.1, h1.2, lit_gt v⟩
  · exact absurd h (failP_er (by decide))
theorem isNull_ep {ws : List Wd} {t : Et} {u : PS} (h : (isNullF ws t u).2.er = 0) : u.er = 0 ∧ (isNullF ws t u).2.ne = u.ne ∧ (Gt t → Gt (isNullF ws t u).1) := by
  unfold isNullF at h ⊢
  split at h
  · rename_i h1
    rw [if_pos h1]
    have h2 := wholeP_er h
    have h3 := wholeP_er h2.1
    have h4 := mustQ_er h3.1
    exact ⟨h4.1, h2.2.trans (h3.2.trans h4.2), fun ht => one_gt (by decide) (one_gt (by decide) ht)⟩
  · rename_i h1
    rw [if_neg h1]
    have h3 := wholeP_er h
    have h4 := mustQ_er h3.1
    exact ⟨h4.1, h3.2.trans h4.2, fun ht => one_gt (by decide) ht⟩
theorem strB_ep {ws : List Wd} {go : Nat → PS → Et × PS} (hp : ∀ r, Ep (go r)) : Ep (strB ws go) := fun u h => by
  unfold strB at h
  split at h
  · exact (pathF_ep (wholeP_er h).1).1
  split at h
  · exact hp _ (takeP u) (wholeP_er h).1
  split at h
  · exact hp _ (takeP u) (mustQ_er h).1
  split at h
  · exact listF_ep (hp 0) (takeP u) h
  split at h
  · exact structF_ep (hp 0) (takeP u) h
  · exact (litF_ep h).1
theorem strB_gt {ws : List Wd} {go : Nat → PS → Et × PS} {m : Nat} (hp : ∀ r, Ep (go r)) (h6 : ∀ u, u.ne = m → Gp Gt (go 6) u) (h0 : ∀ u, u.ne = m → Gp Gt (go 0) u) (u : PS) (hu : u.ne = m) : Gp Gt (strB ws go) u := fun h => by
  unfold strB at h ⊢
  split at h
  · rename_i a1
    rw [if_pos a1]
    have b1 := wholeP_er h
    have b2 := pathF_ep b1.1
    exact ⟨b1.2.trans b2.2, field_gt _⟩
  rename_i a1
  rw [if_neg a1]
  split at h
  · rename_i a2
    rw [if_pos a2]
    have b1 := wholeP_er h
    have b2 := h6 (takeP u) hu b1.1
    exact ⟨b1.2.trans b2.1, one_gt (by decide) b2.2⟩
  rename_i a2
  rw [if_neg a2]
  split at h
  · rename_i a3
    rw [if_pos a3]
    have b1 := mustQ_er h
    have b2 := h0 (takeP u) hu b1.1
    exact ⟨b1.2.trans b2.1, b2.2⟩
  rename_i a3
  rw [if_neg a3]
  split at h
  · rename_i a4
    rw [if_pos a4]
    exact listF_gt (hp 0) h0 (takeP u) hu h
  rename_i a4
  rw [if_neg a4]
  split at h
  · rename_i a5
    rw [if_pos a5]
    exact structF_gt (hp 0) h0 (takeP u) hu h
  rename_i a5
  rw [if_neg a5]
  exact (litF_ep h).2
theorem pr_ep (ws : List Wd) : ∀ (n rank : Nat), Ep (pr ws n rank)
  | 0, _, _, h => h
  | n + 1, rank, s, h => by
    have ih := pr_ep ws n
    unfold pr at h
    split at h
    · unfold negF at h
      split at h
      · exact (deepP_er (mustQ_er (ih 2 _ (wholeP_er h).1)).1).1
      · exact ih 3 _ h
    split at h
    · have hs : (cmpS ws (pr ws n 4) (pr ws n 4 s)).2.er = 0 → s.er = 0 := fun k => by
        unfold cmpS at k
        split at k
        · exact ih 4 _ (sides_ep (ih 4) k)
        · exact ih 4 _ k
      unfold cmpF cmpI at h
      split at h
      · exact hs (isNull_ep h).1
      · exact hs h
    split at h
    · exact (deepP_er (strB_ep ih _ h)).1
    · exact ih _ _ (loop_ep (ih _) _ _ h)
theorem pr_gt (ws : List Wd) : ∀ (n rank : Nat) (s : PS), rank ≤ 6 → 7 * (25 - s.ne) + (6 - rank) < n → Gp Gt (pr ws n rank) s
  | 0, _, _, _, h => absurd h (Nat.not_lt_zero _)
  | n + 1, rank, s, hr, hn => fun h => by
    have ep := pr_ep ws n
    have ih := pr_gt ws n
    unfold pr at h ⊢
    split at h
    · rename_i a1
      rw [if_pos a1]
      unfold negF at h ⊢
      split at h
      · rename_i a2
        rw [if_pos a2]
        have b1 : (wholeP ws (pr ws n 2 (notS ws s)).2).er = 0 := h
        have b2 := wholeP_er b1
        have b3 := mustQ_er (ep 2 _ b2.1)
        have b4 := deepP_er b3.1
        have e1 : (notS ws s).ne = s.ne + 1 := b3.2.trans b4.2.1
        have b5 := ih 2 (notS ws s) (by decide) (by rw [e1]; omega) b2.1
        refine ⟨?_, one_gt (by decide) b5.2⟩
        show (wholeP ws (pr ws n 2 (notS ws s)).2).ne - 1 = s.ne
        rw [b2.2, b5.1, e1]
        rfl
      · rename_i a2
        rw [if_neg a2]
        exact ih 3 s (by decide) (by omega) h
    rename_i a1
    rw [if_neg a1]
    split at h
    · rename_i a2
      rw [if_pos a2]
      have hs : (cmpS ws (pr ws n 4) (pr ws n 4 s)).2.er = 0 → (cmpS ws (pr ws n 4) (pr ws n 4 s)).2.ne = s.ne ∧ Gt (cmpS ws (pr ws n 4) (pr ws n 4 s)).1 := fun k => by
        unfold cmpS at k ⊢
        split at k
        · rename_i a3
          rw [if_pos a3]
          have b1 := ih 4 s (by decide) (by omega) (sides_ep (ep 4) k)
          have b2 := sides_gt (r := 3) a3 (ih 4 (takeP (pr ws n 4 s).2) (by decide) (by
            have e : (takeP (pr ws n 4 s).2).ne = s.ne := b1.1
            rw [e]; omega)) b1.2 k
          exact ⟨b2.1.trans b1.1, b2.2⟩
        · rename_i a3
          rw [if_neg a3]
          exact ih 4 s (by decide) (by omega) k
      unfold cmpF cmpI at h ⊢
      split at h
      · rename_i a3
        rw [if_pos a3]
        have b1 := isNull_ep h
        have b2 := hs b1.1
        exact ⟨b1.2.1.trans b2.1, b1.2.2 b2.2⟩
      · rename_i a3
        rw [if_neg a3]
        exact hs h
    rename_i a2
    rw [if_neg a2]
    split at h
    · rename_i a3
      rw [if_pos a3]
      have b1 : (strB ws (pr ws n) (deepP ws s)).2.er = 0 := h
      have b2 := deepP_er (strB_ep ep _ b1)
      have b3 := strB_gt (m := s.ne + 1) ep (fun u hu => ih 6 u (by decide) (by rw [hu]; omega)) (fun u hu => ih 0 u (by decide) (by rw [hu]; omega)) (deepP ws s) b2.2.1 b1
      refine ⟨?_, b3.2⟩
      show (strB ws (pr ws n) (deepP ws s)).2.ne - 1 = s.ne
      rw [b3.1, b2.2.1]
      rfl
    · rename_i a3
      rw [if_neg a3]
      exact loop_gt (m := s.ne) (ep _) (fun u hu => ih (rank + 1) u (by omega) (by rw [hu]; omega)) _ _ (fun k => ih (rank + 1) s (by omega) (by omega) k) h
theorem expr_gt (ws : List Wd) (s : PS) : Gp Gt (exprF ws) s := pr_gt ws 300 0 s (by decide) (by omega)
theorem expr_ep (ws : List Wd) : Ep (exprF ws) := pr_ep ws 300 0
end Go.Proofs.YtcniebkehekliaaGreatDoor
