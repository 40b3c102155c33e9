/- Expressions of each rank (bound), whatever stands there. -/
import Derived.Test.YtcniebkehekliaaGreatDoorExx
namespace Go.Proofs.YtcniebkehekliaaGreatDoor
open Go.RowKit Go.Shelf
/- How a parser may stand ahead of an expression: not too deep, or at the end already. -/
structure Gd (ws : List Wd) (s : PS) : Prop where
  ne : s.ne ≤ 24 ∨ (s.ne = 25 ∧ s.at' + 1 = ws.length)
  er : s.er ≠ 0 → s.at' + 1 = ws.length
  ex : s.ex ≤ s.at'
theorem Gd.pk {ws : List Wd} {s u : PS} (h : Gd ws s) (k : Pk 0 0 ws s u) : Gd ws u := by
  have a := k.ne
  have b := k.lt
  have c := k.ge
  have d := k.ex
  have e := h.ex
  refine ⟨?_, k.er h.er, by omega⟩
  rcases h.ne with h1 | ⟨h1, h2⟩
  · left; omega
  · right; omega
theorem Gd.le {ws : List Wd} {s : PS} (h : Gd ws s) : s.ne ≤ 25 := by
  rcases h.ne with h1 | ⟨h1, h2⟩ <;> omega
theorem Gd.deep {ws : List Wd} {s : PS} (hz : Wz ws) (h : Gd ws s) (hlt : s.at' < ws.length) (hk : (wAt ws (deepP ws s).at').k ≠ 0) : Gd ws (deepP ws s) ∧ (deepP ws s).ne ≤ 24 := by
  unfold deepP at hk ⊢
  split at hk
  · next h1 =>
    unfold failP at hk
    split at hk
    · exact absurd ((hz (ws.length - 1) (by omega)).2 (by omega)) hk
    · next h2 =>
      have h3 := h.er h2
      exact absurd ((hz s.at' hlt).2 h3) hk
  · next h1 =>
    rw [if_neg h1]
    exact ⟨⟨Or.inl (by simp only; omega), h.er, h.ex⟩, by simp only; omega⟩
theorem notS_pk {ws : List Wd} (hz : Wz ws) {s : PS} (h : s.at' < ws.length) : Pk 0 1 ws s (notS ws s) := (Pk.refl h).deep.must hz (by decide) _
theorem notS_gd {ws : List Wd} (hz : Wz ws) {s : PS} (h : Gd ws s) (hlt : s.at' < ws.length) (hi : isP (wAt ws s.at') 2 [78, 79, 84] = true) : Gd ws (notS ws s) := by
  have hk : (wAt ws s.at').k ≠ 0 := by rw [isP_kind hi]; decide
  have hnx := hz.next hlt hk
  have her : s.er = 0 := by
    by_cases h0 : s.er = 0
    · exact h0
    · have := h.er h0; omega
  have hne : s.ne ≤ 24 := by
    rcases h.ne with h1 | ⟨h1, h2⟩
    · exact h1
    · omega
  have hex := h.ex
  by_cases h1 : 24 < s.ne + 1
  · have e : deepP ws s = ⟨ws.length - 1, s.ex, s.ne + 1, 3, (wAt ws s.at').a⟩ := by
      unfold deepP failP
      rw [if_pos h1]
      simp only [her, if_true]
    have hk0 : (wAt ws (ws.length - 1)).k = 0 := (hz (ws.length - 1) (by omega)).2 (by omega)
    have e2 : notS ws s = ⟨ws.length - 1, s.ex, s.ne + 1, 3, (wAt ws s.at').a⟩ := by
      unfold notS mustQ
      rw [e]
      have hf : isP (wAt ws (ws.length - 1)) 2 [78, 79, 84] = false := by
        unfold isP
        rw [hk0]
        rfl
      simp only [hf]
      unfold failP
      simp
    rw [e2]
    exact ⟨Or.inr ⟨by simp only; omega, by simp only; omega⟩, fun _ => by simp only; omega, by simp only; omega⟩
  · have e : deepP ws s = { s with ne := s.ne + 1 } := by
      unfold deepP
      rw [if_neg h1]
    have e2 : notS ws s = takeP { s with ne := s.ne + 1 } := by
      unfold notS mustQ
      rw [e]
      simp only [hi, if_true]
    rw [e2]
    exact ⟨Or.inl (by simp only [takeP]; omega), fun hq => absurd her hq, by simp only [takeP]; omega⟩
theorem cmpF_in {ws : List Wd} (hz : Wz ws) (F : PS → Et × PS) (s : PS) (hs : s.at' < ws.length) (hF : ∀ u, u.at' < ws.length → Pk 0 0 ws u (F u).2) : cmpF ws (fun u => if u.at' < ws.length then F u else (zeroT, s)) s = cmpF ws F s := by
  unfold cmpF
  have e : (if s.at' < ws.length then F s else (zeroT, s)) = F s := if_pos hs
  simp only [e]
  congr 1
  unfold cmpS
  split
  · next hr =>
    unfold sidesF
    have h1 := hz.next (hF s hs).lt (rankI_kind (by rw [hr]; decide))
    have h2 : (takeP (F s).2).at' < ws.length := h1
    simp only [h2, if_true]
  · rfl
theorem strongest_all {w : World} {b : Nat} {p : Option Addr} {c : Nat} {ws : List Wd} {s : PS} (H : Ps w b p c ws s) (hz : Wz ws) (hl : Wl ws) (g : Gd ws s) (go : Nat → PS → Et × PS) (hgo : ∀ r u, u.at' < ws.length → Pk 0 0 ws u (go r u).2)
    (k6 : ∀ W u, Ps W b p c ws u → Gd ws u → u.ne = s.ne + 1 → Calls Tryz.prog 132 #[.pointer (some ⟨b, 0, none⟩)] W (Gives ws (fun k => W.heap.size ≤ k) W b p c (go 6 u)))
    (k0 : ∀ W u, Ps W b p c ws u → Gd ws u → u.ne = s.ne + 1 → Calls Tryz.prog 81 #[.pointer (some ⟨b, 0, none⟩)] W (Gives ws (fun k => W.heap.size ≤ k) W b p c (go 0 u))) :
    Calls Tryz.prog 132 #[.pointer (some ⟨b, 0, none⟩)] w (Gives ws (fun k => w.heap.size ≤ k) w b p c (strF ws go s)) := by
  have hne := g.le
  have hex := g.ex
  have few := H.few
  have hlt := H.lt
  have hd := (Pk.refl (ws := ws) H.lt).deep
  have hdn := deepP_ne ws s
  have htake : ∀ l, isP (wAt ws (deepP ws s).at') 6 l = true → Gd ws (takeP (deepP ws s)) ∧ (takeP (deepP ws s)).ne = s.ne + 1 := by
    intro l hi
    have hk : (wAt ws (deepP ws s).at').k ≠ 0 := by rw [isP_kind hi]; decide
    have h1 := g.deep hz hlt hk
    exact ⟨h1.1.pk ((Pk.refl hd.lt).is hz hi (by decide)).less, hdn⟩
  have hkr : ∀ l, isP (wAt ws (deepP ws s).at') 6 l = true → ∀ W u, Ps W b p c ws u → Pk 0 0 ws (takeP (deepP ws s)) u → Calls Tryz.prog 81 #[.pointer (some ⟨b, 0, none⟩)] W (Gives ws (fun k => W.heap.size ≤ k) W b p c (go 0 u)) := by
    intro l hi W u hP hpk
    have h1 := htake l hi
    refine k0 W u hP (h1.1.pk hpk) ?_
    have := hpk.ne
    rw [h1.2] at this
    exact this
  by_cases h1 : (wAt ws (deepP ws s).at').k = 1
  · exact strongest_path H hz (by omega) (by omega) go hl hgo h1
  · cases n45 : isP (wAt ws (deepP ws s).at') 6 [45] with
    | true => exact strongest_minus H hz (by omega) (by omega) go hgo h1 n45 (fun hi W hP => k6 W _ hP (htake _ hi).1 (htake _ hi).2)
    | false =>
      cases n40 : isP (wAt ws (deepP ws s).at') 6 [40] with
      | true => exact strongest_brackets H hz (by omega) (by omega) go hgo h1 n45 n40 (hkr _ n40)
      | false =>
        cases n91 : isP (wAt ws (deepP ws s).at') 6 [91] with
        | true => exact strongest_list H hz (by omega) (by omega) go hgo h1 n45 n40 n91 (hkr _ n91)
        | false =>
          cases n123 : isP (wAt ws (deepP ws s).at') 6 [123] with
          | true => exact strongest_struct H hz (by omega) (by omega) go hgo h1 n45 n40 n91 n123 (hkr _ n123)
          | false => exact strongest_literal H hz (by omega) (by omega) go hl hgo h1 n45 n40 n91 n123
theorem both_any {b : Nat} {p : Option Addr} {c : Nat} {ws : List Wd} (hz : Wz ws) (hl : Wl ws) : ∀ (n : Nat), (∀ (rank : Nat) {w : World} {s : PS}, Ps w b p c ws s → rank < 7 → (27 - s.ne) * 8 ≤ n + rank → Gd ws s →
    Calls Tryz.prog 111 #[.pointer (some ⟨b, 0, none⟩), .int .i64 (rank : Int)] w (Gives ws (fun k => w.heap.size ≤ k) w b p c (pr ws n rank s))) ∧
    (∀ {w : World} {s : PS}, Ps w b p c ws s → (27 - s.ne) * 8 ≤ n + 6 → Gd ws s → Calls Tryz.prog 132 #[.pointer (some ⟨b, 0, none⟩)] w (Gives ws (fun k => w.heap.size ≤ k) w b p c (pr ws n 6 s))) := by
  intro n
  induction n with
  | zero =>
    refine ⟨fun rank w s H hr hm g => ?_, fun {w s} H hm g => ?_⟩
    · have := g.le; omega
    · have := g.le; omega
  | succ n ih =>
    obtain ⟨ihb, iht⟩ := ih
    have hok := fun r u hu => pr_ok hz n r u hu
    have hstr : ∀ {w : World} {s : PS}, Ps w b p c ws s → (27 - s.ne) * 8 ≤ n + 1 + 6 → Gd ws s → Calls Tryz.prog 132 #[.pointer (some ⟨b, 0, none⟩)] w (Gives ws (fun k => w.heap.size ≤ k) w b p c (pr ws (n + 1) 6 s)) := by
      intro w s H hm g
      have e : pr ws (n + 1) 6 s = strF ws (pr ws n) s := rfl
      rw [e]
      refine strongest_all H hz hl g (pr ws n) hok (fun W u hP gu hn => iht hP (by omega) gu) (fun W u hP gu hn => expression_any hP _ (fun W2 hP2 => ?_))
      exact ihb 0 hP2 (by omega) (by omega) gu
    refine ⟨fun rank w s H hr hm g => ?_, fun {w s} H hm g => hstr H hm g⟩
    have few := H.few
    have hlt := H.lt
    have hex := g.ex
    have hle := g.le
    by_cases h2 : rank = 2
    · subst h2
      have e : pr ws (n + 1) 2 s = negF ws (pr ws n) s := rfl
      rw [e]
      have hp := notS_pk hz hlt
      have hq := hok 2 (notS ws s) hp.lt
      refine bound_not H _ (fun W hP => negation_any hP hz (by omega) (pr ws n) (fun W hP => ihb 3 hP (by omega) (by omega) g) (fun hi W hP => ihb 2 hP (by omega) ?_ (notS_gd hz g hlt hi)) ?_ ?_)
      · have := hp.ne; omega
      · have a1 := hp.exb few
        have a2 := hq.exb few
        omega
      · have a1 := hp.ne
        have a2 := hq.ne
        omega
    · by_cases h3 : rank = 3
      · subst h3
        have e : pr ws (n + 1) 3 s = cmpF ws (pr ws n 4) s := rfl
        rw [e, ← cmpF_in hz (pr ws n 4) s hlt (hok 4)]
        have h4 := hok 4 s hlt
        have hx4 := h4.exb few
        refine bound_cmp H _ (fun W hP => comparison_any hP hz _ (fun W hP => ?_) ?_ ?_ (fun W hP => ?_) ?_)
        · rw [if_pos hlt]
          exact ihb 4 hP (by omega) (by omega) g
        · rw [if_pos hlt]; exact h4.lt
        · rw [if_pos hlt]; omega
        · rw [if_pos hlt] at hP ⊢
          have h5 : (takeP (pr ws n 4 s).2).at' < ws.length := hP.lt
          rw [if_pos h5]
          have hk : (wAt ws (pr ws n 4 s).2.at').k ≠ 0 := fun h0 => by
            have h6 := (hz _ h4.lt).1 h0
            have h7 : (pr ws n 4 s).2.at' + 1 < ws.length := h5
            omega
          have hpk := (h4.take hz hk).less
          have hn := hpk.ne
          exact ihb 4 hP (by omega) (by omega) (g.pk hpk)
        · rw [if_pos hlt]
          split
          · next h5 =>
            have hk : (wAt ws (pr ws n 4 s).2.at').k ≠ 0 := fun h0 => by
              have h6 := (hz _ h4.lt).1 h0
              have h7 : (pr ws n 4 s).2.at' + 1 < ws.length := h5
              omega
            have hpk := (h4.take hz hk).less
            have a1 := hpk.exb few
            have a2 := (hok 4 _ h5).exb few
            omega
          · simp only; omega
      · by_cases h6 : rank = 6
        · subst h6
          exact bound_top H _ (fun W hP => hstr hP (by omega) g)
        · have e : pr ws (n + 1) rank s = loopF ws (pr ws n (rank + 1)) rank ws.length (pr ws n (rank + 1) s) := by
            show (if rank = 2 then _ else if rank = 3 then _ else if rank = 6 then _ else _) = _
            rw [if_neg h2, if_neg h3, if_neg h6]
          rw [e]
          refine bound_loop H hz (by omega) rank hr (by omega) (by omega) (by omega) (pr ws n (rank + 1)) (hok (rank + 1)) (fun W u hP hpk => ?_)
          have hn := hpk.ne
          exact ihb (rank + 1) hP (by omega) (by omega) (g.pk hpk)
/- An expression, as the parser has it. -/
def exprF (ws : List Wd) (s : PS) : Et × PS := pr ws 300 0 s
theorem expr_any {w : World} {b : Nat} {p : Option Addr} {c : Nat} {ws : List Wd} {s : PS} (H : Ps w b p c ws s) (hz : Wz ws) (hl : Wl ws) (g : Gd ws s) :
    Calls Tryz.prog 81 #[.pointer (some ⟨b, 0, none⟩)] w (Gives ws (fun k => w.heap.size ≤ k) w b p c (exprF ws s)) :=
  expression_any H _ (fun _ hP => (both_any hz hl 300).1 0 hP (by decide) (by omega) g)
theorem exprF_ok {ws : List Wd} (hz : Wz ws) (s : PS) (h : s.at' < ws.length) : Pk 0 0 ws s (exprF ws s).2 := pr_ok hz 300 0 s h
end Go.Proofs.YtcniebkehekliaaGreatDoor
